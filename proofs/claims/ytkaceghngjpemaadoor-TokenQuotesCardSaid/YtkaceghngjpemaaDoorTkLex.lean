/-
  The contract of token's Lex: a row of its own.
-/
import Derived.Test.YtkaceghngjpemaaDoorTk6
import Derived.Test.YtkaceghngjpemaaDoorTkMath2
import Derived.Deep.AppendLies
namespace Go.Proofs.YtkaceghngjpemaaDoor
set_option linter.unusedVariables false
set_option linter.unusedSimpArgs false
open Go.RowKit

theorem infoTok : (Tryd.prog.info? 44).map (fun i => (i.zero, i.size, i.bytes)) = some (some (.agg #[.int .i64 0, .string ByteArray.empty]), 2, 24) := by kernel_rfl
def tkCells (l : List Tok) : List Value := l.flatMap fun p => [.int .i64 p.1, .string p.2]
theorem tkCells_append (l : List Tok) (p : Tok) : tkCells (l ++ [p]) = tkCells l ++ [.int .i64 p.1, .string p.2] := by simp [tkCells]
theorem ownsRow_belowT {w w' : World} {base e size n : Nat} {v : Value} {xs : List Value} (h : w.ownsRow base e size v n xs) (hb : Below w.heap.size w w') : w'.ownsRow base e size v n xs := by
  refine ⟨h.1, ?_⟩
  rcases h.2 with h | ⟨g, cap, cur, hv, hg, hh, h1, h2, h3, h4⟩
  · exact .inl h
  · have hlt : g < w.heap.size := by
      rcases Nat.lt_or_ge g w.heap.size with h | h
      · exact h
      · rw [Array.getElem?_eq_none h] at hh; cases hh
    exact .inr ⟨g, cap, cur, hv, hg, (hb.block g hlt).trans hh, h1, h2, h3, h4⟩
def strN : Value → Nat
  | .string s => s.size
  | _ => 0

set_option maxRecDepth 100000 in
set_option maxHeartbeats 1000000 in
theorem Lex_own (s : ByteArray) (w : World) (hs : s.size ≤ 20000) (hT : Tabs w) :
    Calls Tryd.prog 17 #[.string s] w fun e w' => ∃ v, e = .returned (.tuple #[v, .int .i64 0]) ∧ w'.ownsRow w.heap.size 44 2 v (lexL s).length (tkCells (lexL s)) ∧ Below w.heap.size w w' := by
  obtain ⟨i0, hi0, hz0, hz1, hz2⟩ := info_parts infoTok
  have q : decide ((20000 : Int) < (s.size : Int)) = false := by simp; omega
  have HT := Lib.hid hT
  clear hT
  go_enter Tryd.func17, Tryd.ntmps17
  go_wp2_with fail
  go_loopw [4, 5, 6, 7] (fun v r _ _ wr => ∃ (rs : ByteArray) (pre : List Tok), r = .string rs ∧ pre ++ lexL rs = lexL s ∧ pre.length + rs.size ≤ s.size ∧ wr.ownsRow w.heap.size 44 2 v pre.length (tkCells pre) ∧ Below w.heap.size w wr) (fun _ r _ _ _ => strN r)
  case atStart => exact ⟨s, [], rfl, rfl, by simp, World.ownsRow_nil _ _ _ _, Below.refl _ _⟩
  case round =>
    obtain ⟨rs, pre, rfl, he, hl, hown, hB⟩ := hrel
    by_cases hz : 0 < rs.size
    · have q5 : rs.toList.isEmpty = false := by
        have h2 : rs.data.toList.length = rs.size := byt_length rs
        rw [ByteArray.toList_eq]
        cases h3 : rs.data.toList with
        | nil => rw [h3] at h2; simp at h2; omega
        | cons a l => rfl
      have hf := first_any rs wr (by omega) hz (HT.out.below hB)
      obtain ⟨f1, f2⟩ := firstP_le rs hz
      rw [lexL_step hz] at he
      have hts := tail_size rs (firstP rs).2
      obtain ⟨⟨kd, n⟩, hp⟩ : ∃ p, p = firstP rs := ⟨_, rfl⟩
      rw [← hp] at hf f1 f2 he hts
      simp only at hf f1 f2 he hts
      have Hf := Lib.hid hf
      have He := Lib.hid he
      have hn0 : (0 : Int) ≤ (n : Int) := by omega
      have hn1 : (n : Int) ≤ (rs.size : Int) := by omega
      have hb1 := hB.size
      clear hf he hp
      go_wp2_with fail
      refine Hf.out.mono ?_
      rintro e w2 ⟨rfl, hb2⟩
      have hown2 := ownsRow_belowT hown hb2
      have hB2 := hB.trans (hb2.mono hb1)
      have hb3 := hB2.size
      go_wp2_with (at_builtin; refine wpList_append_own _ rfl _ _ 23 rfl w.heap.size 44 i0 _ 2 24 Tryd.underlying23 hi0 hz0 hz1 hz2 rfl (by decide) _ _ _ rfl (hown2.alloc _) ⟨w2.heap.size, 0, none⟩ 1 1 [.int .i64 kd, .string (rs.extract 0 n)] rfl rfl ?c1 ?c2 ?c3 ?c4 ?c5 ?_)
      case c1 => exact World.news_of_block (heap_alloc_new w2 _)
      case c2 => simp [Value.oneCell']
      case c3 => unfold maxLen; omega
      case c4 => omega
      case c5 => simp; omega
      intro v' w3 hown3 hgrow _
      have hB3 := (hB2.alloc hb3 (.cells #[.int .i64 kd, .string (rs.extract 0 n)] 44)).grown hgrow (by simp; omega) (fun g hg => (hown2.lt g hg).1)
      rw [← tkCells_append pre (kd, rs.extract 0 n)] at hown3
      have Ho3 := Lib.hid hown3
      have HB3 := Lib.hid hB3
      clear hown hown2 hown3 hB hB2 hB3 hgrow
      go_wp2_with fail
      refine ⟨⟨rs.extract n rs.size, pre ++ [(kd, rs.extract 0 n)], rfl, by rw [List.append_assoc]; exact He.out, by rw [hts]; simp; omega, ?_, HB3.out⟩, by simp only [strN]; omega⟩
      have h := Ho3.out
      rw [show (pre ++ [((kd, rs.extract 0 n) : Tok)]).length = pre.length + 1 by simp]
      exact h
    · have q5 : rs.toList.isEmpty = true := by
        have h2 : rs.data.toList.length = rs.size := byt_length rs
        rw [ByteArray.toList_eq, List.eq_nil_of_length_eq_zero (l := rs.data.toList) (by omega)]
        rfl
      rw [lexL_nil (s := rs) (by omega), List.append_nil] at he
      subst he
      clear hl
      go_wp2_with fail
      go_ret2
      exact ⟨_, rfl, hown, hB⟩

theorem Lex_no (s : ByteArray) (w : World) (hs : 20000 < s.size) :
    Calls Tryd.prog 17 #[.string s] w fun e w' => e = .returned (.tuple #[.slice none 0 0, .int .i64 3]) ∧ w' = w := by
  have q : decide ((20000 : Int) < (s.size : Int)) = true := by simp; omega
  go_enter Tryd.func17, Tryd.ntmps17
  go_wp2_with fail
  go_ret2
  exact ⟨rfl, rfl⟩
end Go.Proofs.YtkaceghngjpemaaDoor
