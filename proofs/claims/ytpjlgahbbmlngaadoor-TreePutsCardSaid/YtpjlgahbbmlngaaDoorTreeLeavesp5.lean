/-
  The contract of token's Lex: a row of its own.; A slice of tokens in memory; contracts of the library's Equal and the specification's Same of such slices.; Contracts of token's lexesTo, IsToken, Apart.; Trees: nodes as a plain type, what is read off them, and nodes that lie in memory.; Walks of trees: all nodes with their positions, in the positions' order; what comes behind a position.
-/
import Derived.Test.YtpjlgahbbmlngaaDoorTreeLeavesp4
import Derived.Deep.AppendLies
import Derived.BigQuiet
import Derived.Deep.QuietTactic
namespace Go.Proofs.YtpjlgahbbmlngaaDoor
set_option linter.unusedVariables false
set_option linter.unusedSimpArgs false
open Go.RowKit

theorem infoTok : (Tryd.prog.info? 23).map (fun i => (i.zero, i.size, i.bytes)) = some (some (.agg #[.int .i64 0, .string ByteArray.empty]), 2, 24) := by kernel_rfl
def tkCells (l : List Tok) : List Value := l.flatMap fun p => [.int .i64 p.1, .string p.2]
theorem tkCells_append (l : List Tok) (p : Tok) : tkCells (l ++ [p]) = tkCells l ++ [.int .i64 p.1, .string p.2] := by simp [tkCells]
theorem ownsRow_belowT {w w' : World} {base e size n : Nat} {v : Value} {xs : List Value} (h : w.ownsRow base e size v n xs) (hb : Below w.heap.size w w') : w'.ownsRow base e size v n xs := by
  refine ⟨h.1, ?_⟩
  rcases h.2 with h | ⟨g, cap, cur, hv, hg, hh, h1, h2, h3, h4⟩
  · exact .inl h
  · have hlt : g < w.heap.size := by
      rcases Nat.lt_or_ge g w.heap.size with h | h
      · exact h
      · rw [Array.getElem?_eq_none h] at hh; cases hh
    exact .inr ⟨g, cap, cur, hv, hg, (hb.block g hlt).trans hh, h1, h2, h3, h4⟩
def strN : Value → Nat
  | .string s => s.size
  | _ => 0

set_option maxRecDepth 100000 in
set_option maxHeartbeats 1000000 in
theorem Lex_own (s : ByteArray) (w : World) (hs : s.size ≤ 20000) (hT : Tabs w) :
    Calls Tryd.prog 108 #[.string s] w fun e w' => ∃ v, e = .returned (.tuple #[v, .int .i64 0]) ∧ w'.ownsRow w.heap.size 23 2 v (lexL s).length (tkCells (lexL s)) ∧ Below w.heap.size w w' := by
  obtain ⟨i0, hi0, hz0, hz1, hz2⟩ := info_parts infoTok
  have q : decide ((20000 : Int) < (s.size : Int)) = false := by simp; omega
  have HT := Lib.hid hT
  clear hT
  go_enter Tryd.func108, Tryd.ntmps108
  go_wp2_with fail
  go_loopw [4, 5, 6, 7] (fun v r _ _ wr => ∃ (rs : ByteArray) (pre : List Tok), r = .string rs ∧ pre ++ lexL rs = lexL s ∧ pre.length + rs.size ≤ s.size ∧ wr.ownsRow w.heap.size 23 2 v pre.length (tkCells pre) ∧ Below w.heap.size w wr) (fun _ r _ _ _ => strN r)
  case atStart => exact ⟨s, [], rfl, rfl, by simp, World.ownsRow_nil _ _ _ _, Below.refl _ _⟩
  case round =>
    obtain ⟨rs, pre, rfl, he, hl, hown, hB⟩ := hrel
    by_cases hz : 0 < rs.size
    · have q5 : rs.toList.isEmpty = false := by
        have h2 : rs.data.toList.length = rs.size := byt_length rs
        rw [ByteArray.toList_eq]
        cases h3 : rs.data.toList with
        | nil => rw [h3] at h2; simp at h2; omega
        | cons a l => rfl
      have hf := first_any rs wr (by omega) hz (HT.out.below hB)
      obtain ⟨f1, f2⟩ := firstP_le rs hz
      rw [lexL_step hz] at he
      have hts := tail_size rs (firstP rs).2
      obtain ⟨⟨kd, n⟩, hp⟩ : ∃ p, p = firstP rs := ⟨_, rfl⟩
      rw [← hp] at hf f1 f2 he hts
      simp only at hf f1 f2 he hts
      have Hf := Lib.hid hf
      have He := Lib.hid he
      have hn0 : (0 : Int) ≤ (n : Int) := by omega
      have hn1 : (n : Int) ≤ (rs.size : Int) := by omega
      have hb1 := hB.size
      clear hf he hp
      go_wp2_with fail
      refine Hf.out.mono ?_
      rintro e w2 ⟨rfl, hb2⟩
      have hown2 := ownsRow_belowT hown hb2
      have hB2 := hB.trans (hb2.mono hb1)
      have hb3 := hB2.size
      go_wp2_with (at_builtin; refine wpList_append_own _ rfl _ _ 34 rfl w.heap.size 23 i0 _ 2 24 Tryd.underlying34 hi0 hz0 hz1 hz2 rfl (by decide) _ _ _ rfl (hown2.alloc _) ⟨w2.heap.size, 0, none⟩ 1 1 [.int .i64 kd, .string (rs.extract 0 n)] rfl rfl ?c1 ?c2 ?c3 ?c4 ?c5 ?_)
      case c1 => exact World.news_of_block (heap_alloc_new w2 _)
      case c2 => simp [Value.oneCell']
      case c3 => unfold maxLen; omega
      case c4 => omega
      case c5 => simp; omega
      intro v' w3 hown3 hgrow _
      have hB3 := (hB2.alloc hb3 (.cells #[.int .i64 kd, .string (rs.extract 0 n)] 23)).grown hgrow (by simp; omega) (fun g hg => (hown2.lt g hg).1)
      rw [← tkCells_append pre (kd, rs.extract 0 n)] at hown3
      have Ho3 := Lib.hid hown3
      have HB3 := Lib.hid hB3
      clear hown hown2 hown3 hB hB2 hB3 hgrow
      go_wp2_with fail
      refine ⟨⟨rs.extract n rs.size, pre ++ [(kd, rs.extract 0 n)], rfl, by rw [List.append_assoc]; exact He.out, by rw [hts]; simp; omega, ?_, HB3.out⟩, by simp only [strN]; omega⟩
      have h := Ho3.out
      rw [show (pre ++ [((kd, rs.extract 0 n) : Tok)]).length = pre.length + 1 by simp]
      exact h
    · have q5 : rs.toList.isEmpty = true := by
        have h2 : rs.data.toList.length = rs.size := byt_length rs
        rw [ByteArray.toList_eq, List.eq_nil_of_length_eq_zero (l := rs.data.toList) (by omega)]
        rfl
      rw [lexL_nil (s := rs) (by omega), List.append_nil] at he
      subst he
      clear hl
      go_wp2_with fail
      go_ret2
      exact ⟨_, rfl, hown, hB⟩

theorem Lex_no (s : ByteArray) (w : World) (hs : 20000 < s.size) :
    Calls Tryd.prog 108 #[.string s] w fun e w' => e = .returned (.tuple #[.slice none 0 0, .int .i64 3]) ∧ w' = w := by
  have q : decide ((20000 : Int) < (s.size : Int)) = true := by simp; omega
  go_enter Tryd.func108, Tryd.ntmps108
  go_wp2_with fail
  go_ret2
  exact ⟨rfl, rfl⟩
end Go.Proofs.YtpjlgahbbmlngaaDoor

namespace Go.Proofs.YtpjlgahbbmlngaaDoor
set_option linter.unusedVariables false
set_option linter.unusedSimpArgs false
open Go.RowKit

def TksV (w : World) (A : Option Addr) (l : List Tok) : Prop :=
  0 < l.length → ∃ b off, A = some ⟨b, off, none⟩ ∧ b < w.heap.size ∧ ∀ i p, l[i]? = some p → w.cell? ⟨b, off + i * 2, none⟩ = some (.int .i64 p.1) ∧ w.cell? ⟨b, off + i * 2 + 1, none⟩ = some (.string p.2)
theorem TksV.nil (w : World) (A : Option Addr) : TksV w A [] := fun h => absurd h (by simp)
theorem TksV.below {w w' : World} {A : Option Addr} {l : List Tok} (h : TksV w A l) (hb : Below w.heap.size w w') : TksV w' A l := by
  intro hl
  obtain ⟨b, off, rfl, hlt, hg⟩ := h hl
  exact ⟨b, off, rfl, Nat.lt_of_lt_of_le hlt hb.size, fun i p hp => ⟨(hb.cell hlt).trans (hg i p hp).1, (hb.cell hlt).trans (hg i p hp).2⟩⟩
theorem TksV.get {w : World} {A : Option Addr} {l : List Tok} (h : TksV w A l) {k : Nat} (hk : k < l.length) :
    ∃ b off, A = some ⟨b, off, none⟩ ∧ b < w.heap.size ∧ w.cell? ⟨b, off + k * 2, none⟩ = some (.int .i64 l[k].1) ∧ w.cell? ⟨b, off + k * 2 + 1, none⟩ = some (.string l[k].2) := by
  obtain ⟨b, off, rfl, hb, hg⟩ := h (by omega)
  exact ⟨b, off, rfl, hb, hg k _ (List.getElem?_eq_getElem hk)⟩
theorem tkCells_length : ∀ l : List Tok, (tkCells l).length = l.length * 2
  | [] => rfl
  | p :: l => by
    have := tkCells_length l
    simp only [tkCells, List.flatMap_cons, List.length_append, List.length_cons, List.length_nil] at this ⊢
    omega
theorem tkCells_get : ∀ (l : List Tok) (i : Nat) (p : Tok), l[i]? = some p → (tkCells l)[i * 2]? = some (.int .i64 p.1) ∧ (tkCells l)[i * 2 + 1]? = some (.string p.2)
  | [], i, p, h => by simp at h
  | e :: l, 0, p, h => by
    simp at h; subst h
    simp [tkCells]
  | e :: l, i + 1, p, h => by
    have := tkCells_get l i p (by simpa using h)
    rw [show (i + 1) * 2 = i * 2 + 2 by omega]
    simpa [tkCells] using this
theorem TksV.of_own {w : World} {base e : Nat} {v : Value} {l : List Tok} (h : w.ownsRow base e 2 v l.length (tkCells l)) :
    ∃ A c, v = .slice A l.length c ∧ TksV w A l ∧ l.length ≤ c ∧ (∀ a, A = some a → base ≤ a.block) := by
  rcases h.2 with ⟨rfl, h0⟩ | ⟨g, cap, cur, rfl, hb, hg, hn, hc, hs, ht⟩
  · have : l = [] := List.eq_nil_of_length_eq_zero h0
    subst this
    exact ⟨none, 0, rfl, TksV.nil _ _, Nat.le_refl _, fun a ha => by cases ha⟩
  · refine ⟨some ⟨g, 0, none⟩, cap, rfl, fun hl => ⟨g, 0, rfl, ?_, fun i p he => ?_⟩, hn, fun a ha => by cases ha; exact hb⟩
    · rcases Nat.lt_or_ge g w.heap.size with hlt | hge
      · exact hlt
      · rw [Array.getElem?_eq_none hge] at hg; cases hg
    · obtain ⟨h1, h2⟩ := tkCells_get l i p he
      have hi : i < l.length := by
        rcases Nat.lt_or_ge i l.length with hlt | hge
        · exact hlt
        · rw [List.getElem?_eq_none hge] at he; cases he
      have hcell : ∀ j, j < l.length * 2 → w.cell? ⟨g, j, none⟩ = (tkCells l)[j]? := by
        intro j hj
        rw [← ht, List.getElem?_take_of_lt hj]
        simp [World.cell?, hg]
      simp only [Nat.zero_add]
      exact ⟨by rw [hcell _ (by omega)]; exact h1, by rw [hcell _ (by omega)]; exact h2⟩
theorem TksV.one {w : World} {b : Nat} {p : Tok} {t : TypeId} {fr : Nat × Nat} (h : w.heap[b]? = some (.cells #[.int .i64 p.1, .string p.2] t fr)) : TksV w (some ⟨b, 0, none⟩) [p] := by
  intro _
  have hlt : b < w.heap.size := by
    rcases Nat.lt_or_ge b w.heap.size with hlt | hge
    · exact hlt
    · rw [Array.getElem?_eq_none hge] at h; cases h
  refine ⟨b, 0, rfl, hlt, fun i q hq => ?_⟩
  have hi : i = 0 := by
    rcases Nat.eq_zero_or_pos i with h | h
    · exact h
    · rw [List.getElem?_eq_none (by simp; omega)] at hq; cases hq
  subst hi
  simp at hq
  subst hq
  exact ⟨by simp [World.cell?, h], by simp [World.cell?, h]⟩
theorem TksV.two {w : World} {b : Nat} {p q : Tok} {t : TypeId} {fr : Nat × Nat} (h : w.heap[b]? = some (.cells #[.int .i64 p.1, .string p.2, .int .i64 q.1, .string q.2] t fr)) : TksV w (some ⟨b, 0, none⟩) [p, q] := by
  intro _
  have hlt : b < w.heap.size := by
    rcases Nat.lt_or_ge b w.heap.size with hlt | hge
    · exact hlt
    · rw [Array.getElem?_eq_none hge] at h; cases h
  refine ⟨b, 0, rfl, hlt, fun i x hx => ?_⟩
  have hi : i = 0 ∨ i = 1 := by
    rcases Nat.lt_or_ge i 2 with h | h
    · omega
    · rw [List.getElem?_eq_none (by simp; omega)] at hx; cases hx
  rcases hi with rfl | rfl
  · simp at hx; subst hx; exact ⟨by simp [World.cell?, h], by simp [World.cell?, h]⟩
  · simp at hx; subst hx; exact ⟨by simp [World.cell?, h], by simp [World.cell?, h]⟩
theorem below_drewT {B : Nat} {a w : World} (h : Below B a w) (n : Nat) : Below B a (w.drewN n) := ⟨h.os, h.tape, h.output, h.size, h.block⟩

theorem run_neq_tok (a b : Tok) (w : World) :
    (binOp .neq 23 (.agg #[.int .i64 a.1, .string a.2]) (.agg #[.int .i64 b.1, .string b.2])).run Tryd.prog w = .ok (.bool (!decide (a = b))) w := by
  simp [go_sem]
  by_cases h1 : a.1 = b.1
  · by_cases h3 : a.2 = b.2
    · have h4 : a.2.toList = b.2.toList := by rw [h3]
      have h5 : a = b := Prod.ext h1 h3
      rw [if_pos h1, if_pos h4]; simp [h5]
    · have h4 : ¬ a.2.toList = b.2.toList := fun h => h3 (strs_inj h)
      have h5 : ¬ a = b := fun h => h3 (by rw [h])
      rw [if_pos h1, if_neg h4]; simp [h5]
  · have h5 : ¬ a = b := fun h => h1 (by rw [h])
    rw [if_neg h1]; simp [h5]

set_option maxRecDepth 100000 in
set_option maxHeartbeats 1000000 in
theorem Equal_any (c1 c2 : Nat) (A1 A2 : Option Addr) (l1 l2 : List Tok) (w : World) (hl : l1.length ≤ 100000) (hE1 : TksV w A1 l1) (hE2 : TksV w A2 l2) :
    Calls Tryd.prog 109 #[.slice A1 l1.length c1, .slice A2 l2.length c2] w fun e w' => e = .returned (.bool (decide (l1 = l2))) ∧ Below w.heap.size w w' := by
  by_cases hlen : l1.length = l2.length
  · have q : ((l1.length : Int) != (l2.length : Int)) = false := by simp; omega
    have Hlen := Lib.hid hlen
    clear hlen
    go_enter Tryd.func109, Tryd.ntmps109
    go_wp2_with fail
    go_loopw [5, 13] (fun _ i wr => ∃ (k : Nat), k ≤ l1.length ∧ i = .int .i64 k ∧ l1.take k = l2.take k ∧ Below w.heap.size w wr) (fun _ i _ => l1.length - (intOf i).toNat)
    case atStart => exact ⟨0, by omega, rfl, rfl, Below.refl _ _⟩
    case round =>
      obtain ⟨k, hk, rfl, he, hB⟩ := hrel
      have He := Lib.hid he
      clear he
      by_cases hlt : k < l1.length
      · have hlt2 : k < l2.length := by have := Hlen.out; omega
        obtain ⟨b, off, rfl, hb, c11, c12⟩ := (hE1.below hB).get hlt
        obtain ⟨b2, off2, rfl, hb2, c21, c22⟩ := (hE2.below hB).get hlt2
        clear hE1 hE2
        by_cases heq : l1[k] = l2[k]
        · have Heq := Lib.hid heq
          have hrun : ∀ w', (binOp .neq 23 (.agg #[.int .i64 l1[k].1, .string l1[k].2]) (.agg #[.int .i64 l2[k].1, .string l2[k].2])).run Tryd.prog w' = .ok (.bool false) w' := fun w' => by
            rw [run_neq_tok]; simp [heq]
          clear heq
          go_wp2_with fail
          go_quiet (fail)
          go_wp2_with fail
          refine ⟨⟨k + 1, by omega, by go_num, ?_, below_drewT hB _⟩, by simp [intOf]; omega⟩
          rw [List.take_succ_eq_append_getElem hlt, List.take_succ_eq_append_getElem hlt2, He.out, Heq.out]
        · have Heq := Lib.hid heq
          have hrun : ∀ w', (binOp .neq 23 (.agg #[.int .i64 l1[k].1, .string l1[k].2]) (.agg #[.int .i64 l2[k].1, .string l2[k].2])).run Tryd.prog w' = .ok (.bool true) w' := fun w' => by
            rw [run_neq_tok]; simp [heq]
          clear heq
          go_wp2_with fail
          go_quiet (fail)
          go_wp2_with fail
          go_ret
          refine ⟨ret_b ?_, below_drewT hB _⟩
          symm
          rw [decide_eq_false_iff_not]
          intro h
          exact Heq.out (by simp [h])
      · have hk3 : k = l1.length := by omega
        subst hk3
        go_wp2_with fail
        go_ret
        refine ⟨ret_b ?_, hB⟩
        symm
        rw [decide_eq_true_iff]
        have h1 := He.out
        rw [List.take_length, Hlen.out, List.take_length] at h1
        exact h1
  · have q : ((l1.length : Int) != (l2.length : Int)) = true := by simp; omega
    have Hlen := Lib.hid hlen
    clear hlen
    go_enter Tryd.func109, Tryd.ntmps109
    go_wp2_with fail
    go_ret
    refine ⟨ret_b ?_, Below.refl _ _⟩
    symm
    rw [decide_eq_false_iff_not]
    intro h
    exact Hlen.out (by rw [h])

set_option maxRecDepth 100000 in
set_option maxHeartbeats 1000000 in
theorem RSame_any (c1 c2 : Nat) (A1 A2 : Option Addr) (l1 l2 : List Tok) (w : World) (hl : l1.length ≤ 100000) (hE1 : TksV w A1 l1) (hE2 : TksV w A2 l2) :
    Calls Tryd.prog 65 #[.slice A1 l1.length c1, .slice A2 l2.length c2] w fun e w' => e = .returned (.bool (decide (l1 = l2))) ∧ Below w.heap.size w w' := by
  by_cases hlen : l1.length = l2.length
  · have q : ((l1.length : Int) != (l2.length : Int)) = false := by simp; omega
    have Hlen := Lib.hid hlen
    clear hlen
    go_enter Tryd.func65, Tryd.ntmps65
    go_wp2_with fail
    go_loopw [5] (fun i wr => ∃ (k : Nat), k ≤ l1.length ∧ i = .int .i64 k ∧ l1.take k = l2.take k ∧ Below w.heap.size w wr) (fun i _ => l1.length - (intOf i).toNat)
    case atStart => exact ⟨0, by omega, rfl, rfl, Below.refl _ _⟩
    case round =>
      obtain ⟨k, hk, rfl, he, hB⟩ := hrel
      have He := Lib.hid he
      clear he
      by_cases hlt : k < l1.length
      · have hlt2 : k < l2.length := by have := Hlen.out; omega
        obtain ⟨b, off, rfl, hb, c11, c12⟩ := (hE1.below hB).get hlt
        obtain ⟨b2, off2, rfl, hb2, c21, c22⟩ := (hE2.below hB).get hlt2
        clear hE1 hE2
        by_cases heq : l1[k] = l2[k]
        · have Heq := Lib.hid heq
          have hrun : ∀ w', (binOp .neq 23 (.agg #[.int .i64 l1[k].1, .string l1[k].2]) (.agg #[.int .i64 l2[k].1, .string l2[k].2])).run Tryd.prog w' = .ok (.bool false) w' := fun w' => by
            rw [run_neq_tok]; simp [heq]
          clear heq
          go_wp2_with fail
          go_quiet (fail)
          go_wp2_with fail
          refine ⟨⟨k + 1, by omega, by go_num, ?_, below_drewT hB _⟩, by simp [intOf]; omega⟩
          rw [List.take_succ_eq_append_getElem hlt, List.take_succ_eq_append_getElem hlt2, He.out, Heq.out]
        · have Heq := Lib.hid heq
          have hrun : ∀ w', (binOp .neq 23 (.agg #[.int .i64 l1[k].1, .string l1[k].2]) (.agg #[.int .i64 l2[k].1, .string l2[k].2])).run Tryd.prog w' = .ok (.bool true) w' := fun w' => by
            rw [run_neq_tok]; simp [heq]
          clear heq
          go_wp2_with fail
          go_quiet (fail)
          go_wp2_with fail
          go_ret
          refine ⟨ret_b ?_, below_drewT hB _⟩
          symm
          rw [decide_eq_false_iff_not]
          intro h
          exact Heq.out (by simp [h])
      · have hk3 : k = l1.length := by omega
        subst hk3
        go_wp2_with fail
        go_ret
        refine ⟨ret_b ?_, hB⟩
        symm
        rw [decide_eq_true_iff]
        have h1 := He.out
        rw [List.take_length, Hlen.out, List.take_length] at h1
        exact h1
  · have q : ((l1.length : Int) != (l2.length : Int)) = true := by simp; omega
    have Hlen := Lib.hid hlen
    clear hlen
    go_enter Tryd.func65, Tryd.ntmps65
    go_wp2_with fail
    go_ret
    refine ⟨ret_b ?_, Below.refl _ _⟩
    symm
    rw [decide_eq_false_iff_not]
    intro h
    exact Hlen.out (by rw [h])
end Go.Proofs.YtpjlgahbbmlngaaDoor

namespace Go.Proofs.YtpjlgahbbmlngaaDoor
set_option linter.unusedVariables false
set_option linter.unusedSimpArgs false
open Go.RowKit

theorem heap_alloc2T (w : World) (o o2 : Obj) : ((w.alloc o).alloc o2).heap[w.heap.size + 1]? = some o2 := by
  have h := heap_alloc_new (w.alloc o) o2
  rw [show (w.alloc o).heap.size = w.heap.size + 1 by simp] at h
  exact h
/-- are these the tokens of a string? -/
def lexesB (s : ByteArray) (l : List Tok) : Bool := decide (s.size ≤ 20000) && decide (lexL s = l)
def isTok (p : Tok) : Bool := lexesB p.2 [p]
def apartB (a b : Tok) : Bool := isTok a && isTok b && lexesB (a.2 ++ b.2) [a, b]
theorem lexL_length : ∀ (n : Nat) (s : ByteArray), s.size ≤ n → (lexL s).length ≤ s.size
  | 0, s, h => by rw [lexL_nil (by omega)]; exact Nat.zero_le _
  | n + 1, s, h => by
    by_cases h0 : s.size = 0
    · rw [lexL_nil h0]; exact Nat.zero_le _
    · have := firstP_le s (by omega)
      have hz := tail_size s (firstP s).2
      have h1 := lexL_length n (s.extract (firstP s).2 s.size) (by omega)
      rw [lexL_step (by omega), List.length_cons]
      omega

set_option maxRecDepth 100000 in
set_option maxHeartbeats 1000000 in
theorem lexesTo_any (s : ByteArray) (c : Nat) (A : Option Addr) (l : List Tok) (w : World) (hT : Tabs w) (hE : TksV w A l) :
    Calls Tryd.prog 105 #[.string s, .slice A l.length c] w fun e w' => e = .returned (.bool (lexesB s l)) ∧ Below w.heap.size w w' := by
  by_cases h : s.size ≤ 20000
  · have hln := lexL_length s.size s (Nat.le_refl _)
    have hr : Hid (lexesB s l = decide (lexL s = l)) := Lib.hid (by unfold lexesB; rw [decide_eq_true h, Bool.true_and])
    have hlx := Lex_own s w h hT
    have Hlx := Lib.hid hlx
    clear hlx hT
    go_enter Tryd.func105, Tryd.ntmps105
    go_wp2_with fail
    refine Hlx.out.mono ?_
    rintro e w1 ⟨v, rfl, ho, hb⟩
    obtain ⟨A1, c1, rfl, hE1, _⟩ := TksV.of_own ho
    have hE2 := hE.below hb
    clear ho hE
    go_wp2_with fail
    with_reducible refine (Equal_any c1 c A1 A (lexL s) l w1 (by omega) hE1 hE2).mono ?_
    rintro e w2 ⟨rfl, hb2⟩
    go_wp2_with fail
    go_ret
    exact ⟨ret_b hr.out.symm, hb.trans (hb2.mono hb.size)⟩
  · have hr : Hid (lexesB s l = false) := Lib.hid (by unfold lexesB; rw [decide_eq_false h, Bool.false_and])
    go_enter Tryd.func105, Tryd.ntmps105
    go_wp2_with fail
    refine (Lex_no s w (by omega)).mono ?_
    rintro e w1 ⟨rfl, rfl⟩
    go_wp2_with fail
    go_ret
    exact ⟨ret_b hr.out.symm, Below.refl _ _⟩

set_option maxRecDepth 100000 in
theorem IsToken_any (k : Int) (s : ByteArray) (w : World) (hT : Tabs w) :
    Calls Tryd.prog 85 #[.agg #[.int .i64 k, .string s]] w fun e w' => e = .returned (.bool (isTok (k, s))) ∧ Below w.heap.size w w' := by
  have hw : Below w.heap.size w ((w.alloc (.cells #[.int .i64 k, .string s] 23)).alloc (.cells #[.int .i64 k, .string s] 23)) := ((Below.refl _ _).alloc (Nat.le_refl _) _).alloc (by simp) _
  have hE : TksV ((w.alloc (.cells #[.int .i64 k, .string s] 23)).alloc (.cells #[.int .i64 k, .string s] 23)) (some ⟨w.heap.size + 1, 0, none⟩) [(k, s)] := TksV.one (p := (k, s)) (t := 23) (fr := (0, 0)) (heap_alloc2T w _ _)
  have hc := lexesTo_any s 1 _ [(k, s)] _ (hT.below hw) hE
  have Hc := Lib.hid hc
  have HW := Lib.hid hw
  clear hc hE hw hT
  go_enter Tryd.func85, Tryd.ntmps85
  go_wp2_with fail
  refine Hc.out.mono ?_
  rintro e w1 ⟨rfl, hb⟩
  go_wp2_with fail
  go_ret
  exact ⟨rfl, HW.out.trans (hb.mono HW.out.size)⟩
end Go.Proofs.YtpjlgahbbmlngaaDoor

namespace Go.Proofs.YtpjlgahbbmlngaaDoor
set_option linter.unusedVariables false
set_option linter.unusedSimpArgs false
open Go.RowKit

inductive Nd where
  | mk : Int → Tok → List Nd → Nd
def Nd.kind : Nd → Int
  | .mk k _ _ => k
def Nd.tok : Nd → Tok
  | .mk _ t _ => t
def Nd.kids : Nd → List Nd
  | .mk _ _ l => l

-- a node's leaves, in order; how many nodes it has; how deep it is
mutual
def leavesN : Nd → List Tok
  | .mk k t l => (if k = 1 then [t] else []) ++ leavesL l
def leavesL : List Nd → List Tok
  | [] => []
  | n :: l => leavesN n ++ leavesL l
end
mutual
def countN : Nd → Nat
  | .mk _ _ l => 1 + countL l
def countL : List Nd → Nat
  | [] => 0
  | n :: l => countN n + countL l
end
mutual
def deepN : Nd → Nat
  | .mk _ _ l => deepL l
def deepL : List Nd → Nat
  | [] => 0
  | n :: l => max (deepN n + 1) (deepL l)
end
/-- a leaf or a node, whatever its kids are -/
def isPartN (n : Nd) : Bool :=
  if n.kind = 1 then n.kids.isEmpty && isTok n.tok
  else if n.kind = 28 ∧ n.kids.isEmpty = false then false
  else decide (2 ≤ n.kind) && decide (n.kind ≤ 28) && decide (n.tok = (0, ByteArray.empty))
mutual
def partsN : Nd → Bool
  | .mk k t l => isPartN (.mk k t l) && partsL l
def partsL : List Nd → Bool
  | [] => true
  | n :: l => partsN n && partsL l
end
/-- a Node can be a tree -/
def formedB (n : Nd) : Bool := partsN n && decide (deepN n ≤ 1000) && decide ((leavesN n).length ≤ 20000)

/-- nodes that lie one behind the other, from a cell of a block on -/
inductive NdsAt (w : World) : Nat → Nat → List Nd → Prop
  | nil {b o : Nat} : NdsAt w b o []
  | leaf {b o : Nat} {k tk : Int} {tx : ByteArray} {A : Option Addr} {c : Nat} {l : List Nd} : b < w.heap.size → w.cell? ⟨b, o, none⟩ = some (.int .i64 k) → w.cell? ⟨b, o + 1, none⟩ = some (.int .i64 tk) → w.cell? ⟨b, o + 2, none⟩ = some (.string tx) → w.cell? ⟨b, o + 3, none⟩ = some (.slice A 0 c) → NdsAt w b (o + 4) l → NdsAt w b o (.mk k (tk, tx) [] :: l)
  | node {b o b' o' : Nat} {k tk : Int} {tx : ByteArray} {c : Nat} {n : Nd} {m l : List Nd} : b < w.heap.size → w.cell? ⟨b, o, none⟩ = some (.int .i64 k) → w.cell? ⟨b, o + 1, none⟩ = some (.int .i64 tk) → w.cell? ⟨b, o + 2, none⟩ = some (.string tx) → w.cell? ⟨b, o + 3, none⟩ = some (.slice (some ⟨b', o', none⟩) (n :: m).length c) → NdsAt w b' o' (n :: m) → NdsAt w b (o + 4) l → NdsAt w b o (.mk k (tk, tx) (n :: m) :: l)
theorem NdsAt.kept {w w' : World} (hb : Below w.heap.size w w') {b o : Nat} {l : List Nd} (h : NdsAt w b o l) : NdsAt w' b o l := by
  induction h with
  | nil => exact .nil
  | leaf h1 c0 c1 c2 c3 _ ih => exact .leaf (Nat.lt_of_lt_of_le h1 hb.size) ((hb.cell h1).trans c0) ((hb.cell h1).trans c1) ((hb.cell h1).trans c2) ((hb.cell h1).trans c3) ih
  | node h1 c0 c1 c2 c3 _ _ ih1 ih2 => exact .node (Nat.lt_of_lt_of_le h1 hb.size) ((hb.cell h1).trans c0) ((hb.cell h1).trans c1) ((hb.cell h1).trans c2) ((hb.cell h1).trans c3) ih1 ih2
/-- a slice of nodes -/
def KidsV (w : World) (A : Option Addr) (l : List Nd) : Prop := 0 < l.length → ∃ b o, A = some ⟨b, o, none⟩ ∧ NdsAt w b o l
theorem KidsV.below {w w' : World} {A : Option Addr} {l : List Nd} (h : KidsV w A l) (hb : Below w.heap.size w w') : KidsV w' A l := fun hl => by
  obtain ⟨b, o, he, hn⟩ := h hl
  exact ⟨b, o, he, hn.kept hb⟩
/-- a node as a value -/
def NodeV (w : World) (v : Value) (n : Nd) : Prop := ∃ A c, v = .agg #[.int .i64 n.kind, .int .i64 n.tok.1, .string n.tok.2, .slice A n.kids.length c] ∧ KidsV w A n.kids
theorem NodeV.below {w w' : World} {v : Value} {n : Nd} (h : NodeV w v n) (hb : Below w.heap.size w w') : NodeV w' v n := by
  obtain ⟨A, c, rfl, hk⟩ := h
  exact ⟨A, c, rfl, hk.below hb⟩
theorem NdsAt.get {w : World} : ∀ {l : List Nd} {b o : Nat}, NdsAt w b o l → ∀ {i : Nat} {n : Nd}, l[i]? = some n → ∃ A c, b < w.heap.size ∧ w.cell? ⟨b, o + i * 4, none⟩ = some (.int .i64 n.kind) ∧ w.cell? ⟨b, o + i * 4 + 1, none⟩ = some (.int .i64 n.tok.1) ∧ w.cell? ⟨b, o + i * 4 + 2, none⟩ = some (.string n.tok.2) ∧ w.cell? ⟨b, o + i * 4 + 3, none⟩ = some (.slice A n.kids.length c) ∧ KidsV w A n.kids
  | [], _, _, _, i, n, h => by simp at h
  | _ :: _, b, o, .leaf h1 c0 c1 c2 c3 h2, 0, n, h => by
    obtain rfl := Option.some.inj h
    simp only [Nat.zero_mul, Nat.add_zero]
    exact ⟨_, _, h1, c0, c1, c2, c3, fun hl => by simp [Nd.kids] at hl⟩
  | _ :: _, b, o, .node h1 c0 c1 c2 c3 hk h2, 0, n, h => by
    obtain rfl := Option.some.inj h
    simp only [Nat.zero_mul, Nat.add_zero]
    exact ⟨_, _, h1, c0, c1, c2, c3, fun _ => ⟨_, _, rfl, hk⟩⟩
  | _ :: l, b, o, .leaf h1 c0 c1 c2 c3 h2, i + 1, n, h => by
    have := h2.get (i := i) (n := n) (by simpa using h)
    rw [show o + (i + 1) * 4 = o + 4 + i * 4 by omega]
    exact this
  | _ :: l, b, o, .node h1 c0 c1 c2 c3 hk h2, i + 1, n, h => by
    have := h2.get (i := i) (n := n) (by simpa using h)
    rw [show o + (i + 1) * 4 = o + 4 + i * 4 by omega]
    exact this
theorem infoNode : (Tryd.prog.info? 26).map (fun i => (i.zero, i.size, i.bytes)) = some (some (.agg #[.int .i64 0, .int .i64 0, .string ByteArray.empty, .slice none 0 0]), 4, 56) := by kernel_rfl
end Go.Proofs.YtpjlgahbbmlngaaDoor

namespace Go.Proofs.YtpjlgahbbmlngaaDoor
set_option linter.unusedVariables false
set_option linter.unusedSimpArgs false

mutual
def walkN (pos : List Nat) : Nd → List (List Nat × Nd)
  | .mk k t l => (pos, .mk k t l) :: walkK pos 0 l
def walkK (pos : List Nat) (i : Nat) : List Nd → List (List Nat × Nd)
  | [] => []
  | n :: l => walkN (pos ++ [i]) n ++ walkK pos (i + 1) l
end
def atN : Nd → List Nat → Option Nd
  | n, [] => some n
  | n, i :: p => match n.kids[i]? with
    | some k => atN k p
    | none => none
/-- what a walk yields behind all that is at a position -/
def restN (pos : List Nat) : Nd → List Nat → List (List Nat × Nd)
  | _, [] => []
  | n, i :: p => (match n.kids[i]? with | some k => restN (pos ++ [i]) k p | none => []) ++ walkK pos (i + 1) (n.kids.drop (i + 1))

theorem walkN_eq (pos : List Nat) (n : Nd) : walkN pos n = (pos, n) :: walkK pos 0 n.kids := by
  cases n; simp [walkN, Nd.kids]
theorem restN_snoc : ∀ (p pos : List Nat) (n x : Nd) (i : Nat), atN n p = some x → restN pos n (p ++ [i]) = walkK (pos ++ p) (i + 1) (x.kids.drop (i + 1)) ++ restN pos n p
  | [], pos, n, x, i, h => by
    obtain rfl := Option.some.inj h
    simp only [List.nil_append, restN, List.append_nil]
    cases n.kids[i]? <;> rfl
  | j :: p, pos, n, x, i, h => by
    simp only [List.cons_append, restN]
    cases hk : n.kids[j]? with
    | none => simp [atN, hk] at h
    | some k =>
      simp only [atN, hk] at h
      dsimp only
      rw [restN_snoc p (pos ++ [j]) k x i h]
      simp only [List.append_assoc, List.cons_append, List.nil_append]
theorem atN_snoc : ∀ (p : List Nat) (n x k : Nd) (i : Nat), atN n p = some x → x.kids[i]? = some k → atN n (p ++ [i]) = some k
  | [], n, x, k, i, h, hk => by
    obtain rfl := Option.some.inj h
    simp [atN, hk]
  | j :: p, n, x, k, i, h, hk => by
    simp only [List.cons_append, atN] at h ⊢
    cases hj : n.kids[j]? with
    | none => simp [hj] at h
    | some y =>
      simp only [hj] at h ⊢
      exact atN_snoc p y x k i h hk
theorem drop_kids {x k : Nd} {i : Nat} (h : x.kids[i]? = some k) : x.kids.drop i = k :: x.kids.drop (i + 1) := by
  obtain ⟨hlt, rfl⟩ := List.getElem?_eq_some_iff.1 h
  exact List.drop_eq_getElem_cons hlt
/-- the inner loop's step: there is a next kid -/
theorem walkK_kid {q : List Nat} {x k : Nd} {i : Nat} (h : x.kids[i]? = some k) : walkK q i (x.kids.drop i) = walkN (q ++ [i]) k ++ walkK q (i + 1) (x.kids.drop (i + 1)) := by
  rw [drop_kids h, walkK]
theorem walkK_end {q : List Nat} {x : Nd} {i : Nat} (h : x.kids.length ≤ i) : walkK q i (x.kids.drop i) = [] := by
  rw [List.drop_eq_nil_of_le h, walkK]
mutual
theorem walkN_length (pos : List Nat) : ∀ n : Nd, (walkN pos n).length = countN n
  | .mk k t l => by simp only [walkN, countN, List.length_cons, walkK_length pos 0 l]; omega
theorem walkK_length (pos : List Nat) (i : Nat) : ∀ l : List Nd, (walkK pos i l).length = countL l
  | [] => rfl
  | n :: l => by simp only [walkK, countL, List.length_append, walkN_length _ n, walkK_length pos (i + 1) l]
end
theorem atN_last : ∀ (p : List Nat) (n x y : Nd) (i : Nat), atN n (p ++ [i]) = some x → atN n p = some y → y.kids[i]? = some x
  | [], n, x, y, i, h, hy => by
    obtain rfl := Option.some.inj hy
    simp only [List.nil_append, atN] at h
    cases hk : n.kids[i]? with
    | none => simp [hk] at h
    | some k => simpa [hk] using h
  | j :: p, n, x, y, i, h, hy => by
    simp only [List.cons_append, atN] at h hy
    cases hj : n.kids[j]? with
    | none => simp [hj] at h
    | some k =>
      simp only [hj] at h hy
      exact atN_last p k x y i h hy
theorem countN_pos : ∀ n : Nd, 0 < countN n
  | .mk _ _ _ => by simp only [countN]; omega
theorem len_countL : ∀ l : List Nd, l.length ≤ countL l
  | [] => Nat.zero_le _
  | n :: l => by
    have := len_countL l
    have := countN_pos n
    simp only [countL, List.length_cons]; omega
theorem countL_get : ∀ (l : List Nd) (i : Nat) (k : Nd), l[i]? = some k → countN k ≤ countL l
  | [], _, _, h => by simp at h
  | x :: l, 0, k, h => by
    obtain rfl := Option.some.inj h
    simp only [countL]; omega
  | x :: l, i + 1, k, h => by
    have := countL_get l i k (by simpa using h)
    simp only [countL]; omega
theorem countN_kids (n : Nd) : countN n = 1 + countL n.kids := by
  cases n; simp [countN, Nd.kids]
theorem atN_bounds : ∀ (q : List Nat) (n x : Nd), atN n q = some x → q.length + countN x ≤ countN n
  | [], n, x, h => by
    obtain rfl := Option.some.inj h
    simp
  | i :: q, n, x, h => by
    simp only [atN] at h
    cases hj : n.kids[i]? with
    | none => simp [hj] at h
    | some k =>
      simp only [hj] at h
      have h1 := atN_bounds q k x h
      have h2 := countL_get _ _ _ hj
      have h3 := countN_kids n
      simp only [List.length_cons]; omega
theorem atN_small {q : List Nat} {n x : Nd} (h : atN n q = some x) : q.length < countN n ∧ x.kids.length < countN n := by
  have h1 := atN_bounds q n x h
  have h2 := countN_kids x
  have h3 := len_countL x.kids
  omega
end Go.Proofs.YtpjlgahbbmlngaaDoor
