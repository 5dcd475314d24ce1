/-
  TokenLines: the tokens of a string are those of its lines, but that blanks at their ends and beginnings become one.
  No condition: every input.
-/
import Derived.Test.YtkaceghngjpemaaDoorTkAlive
import Derived.Test.YtkaceghngjpemaaDoorTkLines
import Derived.Test.YtkaceghngjpemaaDoorTkShort
import Derived.Test.YtkaceghngjpemaaDoorTkLaid
import Derived.Deep.AppendLies
namespace Go.Proofs.YtkaceghngjpemaaDoor.lawTokenLines
set_option linter.unusedVariables false
set_option linter.unusedSimpArgs false
open Go.ChangeShapes Go.WideShapes Go.RowKit
open Go.ChangeMaps (open_string shut_string)

theorem own_shapeT {w : World} {base e size n : Nat} {v : Value} {xs : List Value} (h : w.ownsRow base e size v n xs) : ∃ ao cap, v = .slice ao n cap ∧ (0 < n → ∃ g, ao = some ⟨g, 0, none⟩ ∧ base ≤ g ∧ g < w.heap.size) := by
  rcases h.2 with ⟨h1, h2⟩ | ⟨g, cap, cur, h1, hb, hg, _⟩
  · exact ⟨none, 0, by rw [h1, h2], fun h => by omega⟩
  · refine ⟨some ⟨g, 0, none⟩, cap, h1, fun _ => ⟨g, rfl, hb, ?_⟩⟩
    rcases Nat.lt_or_ge g w.heap.size with h' | h'
    · exact h'
    · rw [Array.getElem?_eq_none h'] at hg; cases hg
theorem set_last (init : List Tok) (q : Tok) (y : ByteArray) : (tkCells (init ++ [q])).set (init.length * 2 + 1) (.string y) = tkCells (init ++ [(q.1, y)]) := by
  rw [tkCells_append, tkCells_append, List.set_append_right _ _ (by rw [tkCells_length]; omega), tkCells_length, show init.length * 2 + 1 - init.length * 2 = 1 by omega]
  rfl
theorem byt_mid (s : ByteArray) (f k : Nat) : byt (s.extract f k) = ((byt s).drop f).take (k - f) := by
  unfold byt
  rw [ByteArray.data_extract, Array.toList_extract, List.extract_eq_take_drop]
theorem two_parts (s : ByteArray) {f k : Nat} (h : f ≤ k) : s.extract 0 f ++ s.extract f k = s.extract 0 k := by
  apply bytj
  rw [byt_append, byt_take, byt_take, byt_mid, ← List.take_add, show f + (k - f) = k by omega]
theorem lexL_small : ∀ (n : Nat) (s : ByteArray), s.size ≤ n → ∀ p ∈ lexL s, p.2.size ≤ s.size
  | 0, s, h, p, hp => by rw [lexL_nil (by omega)] at hp; cases hp
  | n + 1, s, h, p, hp => by
    by_cases h0 : s.size = 0
    · rw [lexL_nil h0] at hp; cases hp
    · have hle := firstP_le s (by omega)
      have hz := tail_size s (firstP s).2
      rw [lexL_step (by omega)] at hp
      rcases List.mem_cons.1 hp with rfl | hp
      · simp only [ByteArray.size_extract]; omega
      · have := lexL_small n _ (by omega) p hp
        omega
theorem TksV.other {w w' : World} {A : Option Addr} {l : List Tok} (h : TksV w A l) (hs : w.heap.size ≤ w'.heap.size) (hc : ∀ a, A = some a → a.block < w.heap.size → w'.heap[a.block]? = w.heap[a.block]?) : TksV w' A l := by
  intro hl
  obtain ⟨b, off, rfl, hlt, hg⟩ := h hl
  have he := hc _ rfl hlt
  have key : ∀ o, w'.cell? ⟨b, o, none⟩ = w.cell? ⟨b, o, none⟩ := fun o => by simp only [World.cell?, he]
  exact ⟨b, off, rfl, Nat.lt_of_lt_of_le hlt hs, fun i p hp => ⟨(key _).trans (hg i p hp).1, (key _).trans (hg i p hp).2⟩⟩
/-- while the tokens of a line are put behind those of the lines before -/
structure InL (B : Nat) (wb : World) (A : Option Addr) (acc0 M : List Tok) (k : Nat) (v : Value) (acc : List Tok) (wr : World) : Prop where
  hk : k ≤ M.length
  hacc : acc = mergeT acc0 (M.take k)
  own : wr.ownsRow B 44 2 v acc.length (tkCells acc)
  hM : TksV wr A M
  hne : ∀ a, A = some a → v.ownBlock ≠ some a.block
  hlt : ∀ a, A = some a → a.block < wr.heap.size
  below : Below B wb wr
  hlen : acc.length ≤ acc0.length + k
  hsz : ∀ p ∈ acc, p.2.size ≤ 20000 * (k + 1)
theorem take_snoc {α : Type} (M : List α) {k : Nat} (h : k < M.length) : M.take (k + 1) = M.take k ++ [M[k]] := List.take_succ_eq_append_getElem h
theorem InL.append {B : Nat} {wb wr w' : World} {A : Option Addr} {acc0 M acc : List Tok} {k g cap : Nat} {v : Value} {p : Tok} (h : InL B wb A acc0 M k v acc wr) (hlt : k < M.length) (hpM : p = M[k]) (hB : B ≤ wb.heap.size) (hMs : ∀ p ∈ M, p.2.size ≤ 20000) (hp : pushT acc p = acc ++ [p])
    (hb : B ≤ wr.heap.size) (hown : w'.ownsRow B 44 2 (.slice (some ⟨g, 0, none⟩) (acc.length + 1) cap) (acc.length + 1) (tkCells acc ++ [.int .i64 p.1, .string p.2])) (hgrow : (wr.alloc (.cells #[.int .i64 p.1, .string p.2] 44)).grownBy w' v.ownBlock) (hat : v.ownBlock = some g ∨ g = wr.heap.size + 1) :
    InL B wb A acc0 M (k + 1) (.slice (some ⟨g, 0, none⟩) (acc.length + 1) cap) (acc ++ [p]) w' := by
  subst hpM
  have hs1 : wr.heap.size ≤ w'.heap.size := Nat.le_trans (by simp) hgrow.size
  refine ⟨by omega, ?_, ?_, ?_, ?_, ?_, ?_, ?_, ?_⟩
  · rw [take_snoc M hlt, mergeT_snoc, ← h.hacc, hp]
  · rw [tkCells_append, List.length_append]; exact hown
  · refine TksV.other h.hM hs1 fun a ha hla => ?_
    rw [hgrow.block a.block (by simp; omega) (fun e => h.hne a ha e.symm)]
    exact Below.heap_alloc wr _ _ hla
  · intro a ha e
    have e' : g = a.block := by simpa [Value.ownBlock] using e
    rcases hat with hat | hat
    · exact h.hne a ha (by rw [hat, e'])
    · have := h.hlt a ha; omega
  · intro a ha; have := h.hlt a ha; omega
  · exact (h.below.alloc hb _).grown hgrow (by simp; omega) (fun x hx => (h.own.lt x hx).1)
  · have := h.hlen; simp; omega
  · intro p hp2
    rcases List.mem_append.1 hp2 with hp2 | hp2
    · have := h.hsz p hp2; omega
    · have hpe := List.mem_singleton.1 hp2
      have := hMs M[k] (List.getElem_mem hlt)
      rw [hpe]; omega
theorem InL.join {B : Nat} {wb wr : World} {A : Option Addr} {acc0 M init : List Tok} {q : Tok} {k g cap : Nat} {p : Tok} (h : InL B wb A acc0 M k (.slice (some ⟨g, 0, none⟩) (init.length + 1) cap) (init ++ [q]) wr) (hlt : k < M.length) (hpM : p = M[k]) (hMs : ∀ p ∈ M, p.2.size ≤ 20000) (hg : B ≤ g)
    (h1 : q.1 = 1) (h2 : p.1 = 1) : InL B wb A acc0 M (k + 1) (.slice (some ⟨g, 0, none⟩) (init.length + 1) cap) (init ++ [(q.1, q.2 ++ p.2)]) (wr.setCell ⟨g, init.length * 2 + 1, none⟩ (.string (q.2 ++ p.2))).drew := by
  subst hpM
  suffices hz : InL B wb A acc0 M (k + 1) (.slice (some ⟨g, 0, none⟩) (init.length + 1) cap) (init ++ [(q.1, q.2 ++ M[k].2)]) (wr.setCell ⟨g, init.length * 2 + 1, none⟩ (.string (q.2 ++ M[k].2))) from
    ⟨hz.hk, hz.hacc, hz.own, hz.hM, hz.hne, hz.hlt, hz.below.drew, hz.hlen, hz.hsz⟩
  have hown := h.own
  rw [show (init ++ [q]).length = init.length + 1 by simp] at hown
  have st := hown.stored (init.length * 2 + 1) (.string (q.2 ++ M[k].2))
  rw [set_last] at st
  refine ⟨by omega, ?_, ?_, ?_, h.hne, ?_, h.below.setCell (p := ⟨g, init.length * 2 + 1, none⟩) hg _, ?_, ?_⟩
  · rw [take_snoc M hlt, mergeT_snoc, ← h.hacc, pushT_snoc, if_pos ⟨h1, h2⟩]
  · rw [show (init ++ [(q.1, q.2 ++ M[k].2)]).length = init.length + 1 by simp]; exact st.1
  · refine TksV.other h.hM (by simp [World.setCell]) fun a ha hla => Below.heap_setCell _ _ _ _ ?_
    intro e
    exact h.hne a ha (by simp [Value.ownBlock]; exact e.symm)
  · intro a ha
    have := h.hlt a ha
    simpa [World.setCell] using this
  · have := h.hlen; simp at this ⊢; omega
  · intro p hp
    rcases List.mem_append.1 hp with hp | hp
    · have := h.hsz p (List.mem_append.2 (.inl hp)); omega
    · have hpe := List.mem_singleton.1 hp
      have a1 := h.hsz q (by simp)
      have a2 := hMs M[k] (List.getElem_mem hlt)
      rw [hpe]
      simp only [size_append]
      omega

set_option maxRecDepth 100000 in
set_option maxHeartbeats 4000000 in
theorem walk (t : ByteArray) (ht : t.size ≤ maxLen) (w : World) (hT : Tabs w) :
    Calls Tryd.prog 8 #[.string t] w fun e w' => e = .returned (.bool true) ∧ Below w.heap.size w w' := by
  have hsh := ShortT_any t w ht
  have hst := shortT_size t
  generalize shortT t = s at hsh hst
  have Hsh := Lib.hid hsh
  have HT := Lib.hid hT
  obtain ⟨i0, hi0, hz0, hz1, hz2⟩ := info_parts infoTok
  by_cases h0 : 20000 < s.size
  · have hst' : s.size ≤ 20001 := by omega
    clear hsh hst hT ht
    go_enter Tryd.func8, Tryd.ntmps8
    go_wp2_with fail
    refine Hsh.out.mono ?_
    rintro e w1 ⟨rfl, rfl⟩
    go_wp2_with fail
    refine (Lex_no s w h0).mono ?_
    rintro e w1 ⟨rfl, rfl⟩
    go_wp2_with fail
    refine (alive_any w1 HT.out).mono ?_
    rintro e w2 ⟨rfl, hb2⟩
    go_wp2_with fail
    go_ret
    exact ⟨rfl, hb2⟩
  · have hs : s.size ≤ 20000 := by omega
    have hln := lexL_length s.size s (Nat.le_refl _)
    have hlx := Lex_own s w hs hT
    have Hlx := Lib.hid hlx
    clear hsh hst hT ht hlx h0
    go_enter Tryd.func8, Tryd.ntmps8
    go_wp2_with fail
    refine Hsh.out.mono ?_
    rintro e w1 ⟨rfl, rfl⟩
    go_wp2_with fail
    refine Hlx.out.mono ?_
    rintro e w1 ⟨v, rfl, ho, hb1⟩
    obtain ⟨A, c, rfl, hE, hc, _⟩ := TksV.of_own ho
    have HT1 := Lib.hid (HT.out.below hb1)
    have HE := Lib.hid hE
    clear ho hE
    go_wp2_with fail
    go_loopw [6, 7, 8, 9, 10, 11, 12] (fun va fr i _ _ _ _ wr => ∃ (k f : Nat) (v0 : Value), v0 = va ∧ f ≤ k ∧ k ≤ s.size ∧ i = .int .i64 k ∧ fr = .int .i64 f ∧ ((s.extract 0 f).size = 0 ∨ (byt (s.extract 0 f)).getLast? = some 10 ∨ f = s.size) ∧ (k = s.size → f = s.size) ∧ wr.ownsRow w1.heap.size 44 2 v0 (lexL (s.extract 0 f)).length (tkCells (lexL (s.extract 0 f))) ∧ Below w1.heap.size w1 wr) (fun _ _ i _ _ _ _ _ => s.size - (intOf i).toNat)
    case atStart =>
      have he : lexL (s.extract 0 0) = [] := lexL_nil (by rw [ByteArray.size_extract]; omega)
      refine ⟨0, 0, _, rfl, Nat.le_refl _, Nat.zero_le _, rfl, rfl, .inl (by rw [ByteArray.size_extract]; omega), fun h => h, ?_, Below.refl _ _⟩
      rw [he]
      exact World.ownsRow_nil _ _ _ _
    case round =>
      obtain ⟨k, f, va, rfl, hfk, hk, rfl, rfl, hfl, hkf, hown, hB⟩ := hrel
      by_cases hlt : k < s.size
      · have hfl2 : (s.extract 0 f).size = 0 ∨ (byt (s.extract 0 f)).getLast? = some 10 := by
          rcases hfl with h | h | h
          · exact .inl h
          · exact .inr h
          · omega
        have sk : IntKind.i64.wrap ((k : Int) + 1) = ((k + 1 : Nat) : Int) := by rw [IntWalk.i64_in _ (by omega)]; omega
        have hk1 : (k : Int) < (s.size : Int) := by omega
        have hf1 : (f : Int) ≤ (k : Int) + 1 := by omega
        have hf2 : (k : Int) + 1 ≤ (s.size : Int) := by omega
        have hf3 : f ≤ k + 1 := by omega
        have hf4 : k + 1 ≤ s.size := by omega
        have hf0 : (0 : Int) ≤ (f : Int) := by omega
        cases hq : (((s[k]'hlt).toNat : Int) != 10)
        case false =>
          have hpar := two_parts s (show f ≤ k + 1 by omega)
          have hmg := lexL_lines (s.extract 0 f) (s.extract f (k + 1)) hfl2
          rw [hpar] at hmg
          have hlsz : (s.extract f (k + 1)).size ≤ 20000 := by rw [ByteArray.size_extract]; omega
          have hl0 := lexL_length _ (s.extract 0 f) (Nat.le_refl _)
          have hl00 : (s.extract 0 f).size ≤ 20000 := by rw [ByteArray.size_extract]; omega
          have hl1 := lexL_length _ (s.extract f (k + 1)) (Nat.le_refl _)
          have hsm0 := lexL_small _ (s.extract 0 f) (Nat.le_refl _)
          have hsm1 := lexL_small _ (s.extract f (k + 1)) (Nat.le_refl _)
          have hlm := Lex_own (s.extract f (k + 1)) wr hlsz (HT1.out.below hB)
          have Hmg := Lib.hid hmg
          generalize lexL (s.extract 0 f) = acc0 at hown Hmg hl0 hsm0
          generalize lexL (s.extract f (k + 1)) = M at hlm Hmg hl1 hsm1
          have Hlm := Lib.hid hlm
          have HLAST := Lib.hid (show (byt (s.extract 0 (k + 1))).getLast? = some 10 ∨ k + 1 = s.size from .inl (by
              have h10 : s[k]'hlt = 10 := UInt8.toNat_inj.1 (by have := bne_eq_false_iff_eq.1 hq; change (s[k]'hlt).toNat = 10; omega)
              rw [byt_take, List.take_succ_eq_append_getElem (by rw [byt_length]; exact hlt), List.getLast?_concat]
              exact congrArg some h10))
          have HMS := Lib.hid (show ∀ p ∈ M, p.2.size ≤ 20000 from fun p hp => Nat.le_trans (hsm1 p hp) hlsz)
          have hw1 : w1.heap.size ≤ w1.heap.size := Nat.le_refl _
          have HKF := Lib.hid (show (k + 1 = s.size → k + 1 = s.size) from fun h => h)
          clear hlm hmg hpar hfl hfl2 hkf
          go_wp2_with fail
          refine Hlm.out.mono ?_
          rintro e w2 ⟨v2, rfl, ho2, hb2⟩
          have hoA := ownsRow_belowT hown hb2
          have hB2 := hB.trans (hb2.mono hB.size)
          obtain ⟨A2, c2, rfl, hM2, hc2, hA2⟩ := TksV.of_own ho2
          have hsw := hB.size
          have hin0 : InL w1.heap.size w1 A2 acc0 M 0 va acc0 w2 := by
            refine ⟨Nat.zero_le _, rfl, hoA, hM2, ?_, ?_, hB2, Nat.le_refl _, fun p hp => by have := hsm0 p hp; omega⟩
            · intro a ha e
              have h1 := hA2 a ha
              have h2 := (hown.lt _ e).2
              omega
            · intro a ha
              rcases ho2.2 with ⟨h1, _⟩ | ⟨g, cap, cur, h1, _, hg, _⟩
              · injection h1 with h1
                rw [ha] at h1; cases h1
              · injection h1 with h1
                rw [ha] at h1
                injection h1 with h1
                rw [h1]
                rcases Nat.lt_or_ge g w2.heap.size with h' | h'
                · exact h'
                · rw [Array.getElem?_eq_none h'] at hg; cases hg
          have HIN0 := Lib.hid hin0
          clear hin0 hoA hM2 ho2 hown hB hA2 hB2 hb2
          go_wp2_with fail
          go_loopw [6, 11, 12] (fun v3 j _ w3 => ∃ (n : Nat) (acc : List Tok), j = .int .i64 n ∧ InL w1.heap.size w1 A2 acc0 M n v3 acc w3) (fun _ j _ _ => M.length - (intOf j).toNat)
          case atStart => exact ⟨0, acc0, rfl, HIN0.out⟩
          case round =>
            obtain ⟨n, acc, rfl, hin⟩ := hrel
            have hn := hin.hk
            have hal := hin.hlen
            have HIN := Lib.hid hin
            by_cases hn2 : n < M.length
            · obtain ⟨bm, om, rfl, hbm, m0, m1⟩ := hin.hM.get hn2
              have hpz := hsm1 M[n] (List.getElem_mem hn2)
              obtain ⟨⟨kp, xp⟩, hp⟩ : ∃ p, p = M[n] := ⟨_, rfl⟩
              rw [← hp] at m0 m1 hpz
              simp only at m0 m1 hpz
              have HPM := Lib.hid hp
              have hn3 : (n : Int) < (M.length : Int) := by omega
              have hn30 : (0 : Int) ≤ (n : Int) := by omega
              have sn : IntKind.i64.wrap ((n : Int) + 1) = ((n + 1 : Nat) : Int) := by rw [IntWalk.i64_in _ (by omega)]; omega
              have hws := hin.below.size
              clear hp
              have how := hin.own
              obtain ⟨m, hm⟩ : ∃ m, m = acc.length := ⟨_, rfl⟩
              rw [← hm] at how
              obtain ⟨ao, cap, rfl, hao⟩ := own_shapeT how
              rcases List.eq_nil_or_concat acc with rfl | ⟨init, q, hcc⟩
              · obtain rfl : m = 0 := hm
                have ho3 := how
                have HM := Lib.hid (show (0 : Nat) = 0 from rfl)
                clear hin how
                go_wp2_with (at_builtin; refine wpList_append_lies _ rfl _ _ 23 rfl w1.heap.size 44 i0 _ 2 24 Tryd.underlying23 hi0 hz0 hz1 hz2 rfl (by decide) _ _ _ rfl (ho3.alloc _) ⟨wr.heap.size, 0, none⟩ 1 1 [.int .i64 kp, .string xp] rfl rfl ?c1a ?c2a (by decide) ?c3a ?c4a ?c5a (wr.heap.size + 1) (by simp) ?_)
                try (case c1a => exact World.news_of_block (heap_alloc_new wr _))
                try (case c2a => simp [Value.oneCell'])
                try (case c3a => unfold maxLen; omega)
                try (case c4a => omega)
                try (case c5a => first | omega | (simp; omega))
                intro g' cap' w4 hown4 hgrow4 hat4 _
                have hin4 := InL.append (p := (kp, xp)) HIN.out hn2 HPM.out hw1 HMS.out (pushT_nil _) (by omega) hown4 hgrow4 hat4
                have HIN4 := Lib.hid hin4
                clear hin4 hown4 hgrow4 hat4 ho3
                go_wp2_with fail
                exact ⟨⟨n + 1, _, rfl, HIN4.out⟩, by simp only [intOf]; omega⟩
              · rw [List.concat_eq_append] at hcc
                subst hcc
                have hil : m = init.length + 1 := by rw [hm]; simp
                obtain ⟨g, rfl, hg1, hg2⟩ := hao (by omega)
                have ho3 := how
                have hqz := hin.hsz q (by simp)
                have hcg := tkCells_get (init ++ [q]) init.length q (by simp)
                rw [show init.length = m - 1 by omega] at hcg
                have g0 : wr.cell? ⟨g, (m - 1) * 2, none⟩ = some (.int .i64 q.1) := (ho3.cellAt ((m - 1) * 2) (by omega)).trans hcg.1
                have g1 : wr.cell? ⟨g, (m - 1) * 2 + 1, none⟩ = some (.string q.2) := (ho3.cellAt ((m - 1) * 2 + 1) (by omega)).trans hcg.2
                have gf : wr.frozen? ⟨g, (m - 1) * 2 + 1, none⟩ = false := ho3.frozenAt _
                obtain ⟨kq, xq⟩ := q
                simp only at g0 g1 hqz
                have HM := Lib.hid hm
                have HIL := Lib.hid hil
                have hmb : m ≤ 60000 := by rw [hm]; omega
                have hm1 : 0 < m := by omega
                have hm2 : (0 : Int) < (m : Int) := by omega
                have hm3 : (0 : Int) ≤ ((m - 1 : Nat) : Int) := by omega
                have hm4 : ((m - 1 : Nat) : Int) < (m : Int) := by omega
                have sm : IntKind.i64.wrap ((m : Int) - 1) = ((m - 1 : Nat) : Int) := by rw [IntWalk.i64_in _ (by omega)]; omega
                have q0 : decide ((0 : Int) < (m : Int)) = true := decide_eq_true (by omega)
                have hsum : xq.size + xp.size ≤ 9223372036854775807 := by omega
                clear hcg hil hm how hin
                by_cases h1 : kq = 1
                · subst h1
                  by_cases h2 : kp = 1
                  · subst h2
                    go_wp2_with fail
                    go_region
                    all_goals
                      go_wp2_with fail
                      obtain rfl := HIL.out
                      refine ⟨⟨n + 1, init ++ [((1, xq ++ xp) : Tok)], rfl, ?_⟩, by simp only [intOf]; omega⟩
                      have h := InL.join (p := (1, xp)) HIN.out hn2 HPM.out HMS.out hg1 rfl rfl
                      rw [Nat.add_sub_cancel]
                      exact h
                  · have e2 : (kp == 1) = false := by simp [h2]
                    go_wp2_with (at_builtin; refine wpList_append_lies _ rfl _ _ 23 rfl w1.heap.size 44 i0 _ 2 24 Tryd.underlying23 hi0 hz0 hz1 hz2 rfl (by decide) _ _ _ rfl (ho3.alloc _) ⟨wr.heap.size, 0, none⟩ 1 1 [.int .i64 kp, .string xp] rfl rfl ?c1b ?c2b (by decide) ?c3b ?c4b ?c5b (wr.heap.size + 1) (by simp) ?_)
                    try (case c1b => exact World.news_of_block (heap_alloc_new wr _))
                    try (case c2b => simp [Value.oneCell'])
                    try (case c3b => unfold maxLen; omega)
                    try (case c4b => omega)
                    try (case c5b => first | omega | (simp; omega))
                    intro g' cap' w4 hown4 hgrow4 hat4 _
                    obtain rfl := HM.out
                    have hin4 := InL.append (p := (kp, xp)) HIN.out hn2 HPM.out hw1 HMS.out (by rw [pushT_snoc, if_neg (fun h => h2 h.2)]) (by omega) hown4 hgrow4 hat4
                    have HIN4 := Lib.hid hin4
                    clear hin4 hown4 hgrow4 hat4 ho3
                    go_wp2_with fail
                    exact ⟨⟨n + 1, _, rfl, HIN4.out⟩, by simp only [intOf]; omega⟩
                · have e1 : (kq == 1) = false := by simp [h1]
                  go_wp2_with (at_builtin;  refine wpList_append_lies _ rfl _ _ 23 rfl w1.heap.size 44 i0 _ 2 24 Tryd.underlying23 hi0 hz0 hz1 hz2 rfl (by decide) _ _ _ rfl (ho3.alloc _) ⟨wr.heap.size, 0, none⟩ 1 1 [.int .i64 kp, .string xp] rfl rfl ?c1c ?c2c (by decide) ?c3c ?c4c ?c5c (wr.heap.size + 1) (by simp) ?_)
                  try (case c1c => exact World.news_of_block (heap_alloc_new wr _))
                  try (case c2c => simp [Value.oneCell'])
                  try (case c3c => unfold maxLen; omega)
                  try (case c4c => omega)
                  try (case c5c => first | omega | (simp; omega))
                  intro g' cap' w4 hown4 hgrow4 hat4 _
                  obtain rfl := HM.out
                  have hin4 := InL.append (p := (kp, xp)) HIN.out hn2 HPM.out hw1 HMS.out (by rw [pushT_snoc, if_neg (fun h => h1 h.1)]) (by omega) hown4 hgrow4 hat4
                  have HIN4 := Lib.hid hin4
                  clear hin4 hown4 hgrow4 hat4 ho3
                  go_wp2_with fail
                  exact ⟨⟨n + 1, _, rfl, HIN4.out⟩, by simp only [intOf]; omega⟩
            · have hnm : n = M.length := by omega
              have hn4 : decide ((n : Int) < (M.length : Int)) = false := by simp; omega
              have ho4 := hin.own
              have hb4 := hin.below
              have hac := hin.hacc
              rw [hnm, List.take_length, ← Hmg.out] at hac
              subst hac
              have Ho4 := Lib.hid ho4
              have Hb4 := Lib.hid hb4
              clear hin ho4 hb4
              go_wp2_with fail
              refine ⟨⟨k + 1, k + 1, _, rfl, Nat.le_refl _, hf4, rfl, rfl, ?_, fun h => h, Ho4.out, Hb4.out⟩, by simp only [intOf]; omega⟩
              rcases HLAST.out with h | h
              · exact .inr (.inl h)
              · exact .inr (.inr h)
        case true =>
          by_cases hk2 : k + 1 < s.size
          · have hq2 : decide ((k : Int) + 1 < (s.size : Int)) = true := by simp; omega
            have Ho5 := Lib.hid hown
            have HB5 := Lib.hid hB
            clear hown hB
            go_wp2_with fail
            refine ⟨⟨k + 1, f, va, rfl, by omega, hf4, rfl, rfl, ?_, fun h => by omega, Ho5.out, HB5.out⟩, by simp only [intOf]; omega⟩
            rcases hfl2 with h | h
            · exact .inl h
            · exact .inr (.inl h)
          · have hq2 : decide ((k : Int) + 1 < (s.size : Int)) = false := by simp; omega
            have hpar := two_parts s (show f ≤ k + 1 by omega)
            have hmg := lexL_lines (s.extract 0 f) (s.extract f (k + 1)) hfl2
            rw [hpar] at hmg
            have hlsz : (s.extract f (k + 1)).size ≤ 20000 := by rw [ByteArray.size_extract]; omega
            have hl0 := lexL_length _ (s.extract 0 f) (Nat.le_refl _)
            have hl00 : (s.extract 0 f).size ≤ 20000 := by rw [ByteArray.size_extract]; omega
            have hl1 := lexL_length _ (s.extract f (k + 1)) (Nat.le_refl _)
            have hsm0 := lexL_small _ (s.extract 0 f) (Nat.le_refl _)
            have hsm1 := lexL_small _ (s.extract f (k + 1)) (Nat.le_refl _)
            have hlm := Lex_own (s.extract f (k + 1)) wr hlsz (HT1.out.below hB)
            have Hmg := Lib.hid hmg
            generalize lexL (s.extract 0 f) = acc0 at hown Hmg hl0 hsm0
            generalize lexL (s.extract f (k + 1)) = M at hlm Hmg hl1 hsm1
            have Hlm := Lib.hid hlm
            have HLAST := Lib.hid (show (byt (s.extract 0 (k + 1))).getLast? = some 10 ∨ k + 1 = s.size from .inr (by omega))
            have HMS := Lib.hid (show ∀ p ∈ M, p.2.size ≤ 20000 from fun p hp => Nat.le_trans (hsm1 p hp) hlsz)
            have hw1 : w1.heap.size ≤ w1.heap.size := Nat.le_refl _
            have HKF := Lib.hid (show (k + 1 = s.size → k + 1 = s.size) from fun h => h)
            clear hlm hmg hpar hfl hfl2 hkf
            go_wp2_with fail
            refine Hlm.out.mono ?_
            rintro e w2 ⟨v2, rfl, ho2, hb2⟩
            have hoA := ownsRow_belowT hown hb2
            have hB2 := hB.trans (hb2.mono hB.size)
            obtain ⟨A2, c2, rfl, hM2, hc2, hA2⟩ := TksV.of_own ho2
            have hsw := hB.size
            have hin0 : InL w1.heap.size w1 A2 acc0 M 0 va acc0 w2 := by
              refine ⟨Nat.zero_le _, rfl, hoA, hM2, ?_, ?_, hB2, Nat.le_refl _, fun p hp => by have := hsm0 p hp; omega⟩
              · intro a ha e
                have h1 := hA2 a ha
                have h2 := (hown.lt _ e).2
                omega
              · intro a ha
                rcases ho2.2 with ⟨h1, _⟩ | ⟨g, cap, cur, h1, _, hg, _⟩
                · injection h1 with h1
                  rw [ha] at h1; cases h1
                · injection h1 with h1
                  rw [ha] at h1
                  injection h1 with h1
                  rw [h1]
                  rcases Nat.lt_or_ge g w2.heap.size with h' | h'
                  · exact h'
                  · rw [Array.getElem?_eq_none h'] at hg; cases hg
            have HIN0 := Lib.hid hin0
            clear hin0 hoA hM2 ho2 hown hB hA2 hB2 hb2
            go_wp2_with fail
            go_loopw [6, 11, 12] (fun v3 j _ w3 => ∃ (n : Nat) (acc : List Tok), j = .int .i64 n ∧ InL w1.heap.size w1 A2 acc0 M n v3 acc w3) (fun _ j _ _ => M.length - (intOf j).toNat)
            case atStart => exact ⟨0, acc0, rfl, HIN0.out⟩
            case round =>
              obtain ⟨n, acc, rfl, hin⟩ := hrel
              have hn := hin.hk
              have hal := hin.hlen
              have HIN := Lib.hid hin
              by_cases hn2 : n < M.length
              · obtain ⟨bm, om, rfl, hbm, m0, m1⟩ := hin.hM.get hn2
                have hpz := hsm1 M[n] (List.getElem_mem hn2)
                obtain ⟨⟨kp, xp⟩, hp⟩ : ∃ p, p = M[n] := ⟨_, rfl⟩
                rw [← hp] at m0 m1 hpz
                simp only at m0 m1 hpz
                have HPM := Lib.hid hp
                have hn3 : (n : Int) < (M.length : Int) := by omega
                have hn30 : (0 : Int) ≤ (n : Int) := by omega
                have sn : IntKind.i64.wrap ((n : Int) + 1) = ((n + 1 : Nat) : Int) := by rw [IntWalk.i64_in _ (by omega)]; omega
                have hws := hin.below.size
                clear hp
                have how := hin.own
                obtain ⟨m, hm⟩ : ∃ m, m = acc.length := ⟨_, rfl⟩
                rw [← hm] at how
                obtain ⟨ao, cap, rfl, hao⟩ := own_shapeT how
                rcases List.eq_nil_or_concat acc with rfl | ⟨init, q, hcc⟩
                · obtain rfl : m = 0 := hm
                  have ho3 := how
                  have HM := Lib.hid (show (0 : Nat) = 0 from rfl)
                  clear hin how
                  go_wp2_with (at_builtin; refine wpList_append_lies _ rfl _ _ 23 rfl w1.heap.size 44 i0 _ 2 24 Tryd.underlying23 hi0 hz0 hz1 hz2 rfl (by decide) _ _ _ rfl (ho3.alloc _) ⟨wr.heap.size, 0, none⟩ 1 1 [.int .i64 kp, .string xp] rfl rfl ?c1ax ?c2ax (by decide) ?c3ax ?c4ax ?c5ax (wr.heap.size + 1) (by simp) ?_)
                  try (case c1ax => exact World.news_of_block (heap_alloc_new wr _))
                  try (case c2ax => simp [Value.oneCell'])
                  try (case c3ax => unfold maxLen; omega)
                  try (case c4ax => omega)
                  try (case c5ax => first | omega | (simp; omega))
                  intro g' cap' w4 hown4 hgrow4 hat4 _
                  have hin4 := InL.append (p := (kp, xp)) HIN.out hn2 HPM.out hw1 HMS.out (pushT_nil _) (by omega) hown4 hgrow4 hat4
                  have HIN4 := Lib.hid hin4
                  clear hin4 hown4 hgrow4 hat4 ho3
                  go_wp2_with fail
                  exact ⟨⟨n + 1, _, rfl, HIN4.out⟩, by simp only [intOf]; omega⟩
                · rw [List.concat_eq_append] at hcc
                  subst hcc
                  have hil : m = init.length + 1 := by rw [hm]; simp
                  obtain ⟨g, rfl, hg1, hg2⟩ := hao (by omega)
                  have ho3 := how
                  have hqz := hin.hsz q (by simp)
                  have hcg := tkCells_get (init ++ [q]) init.length q (by simp)
                  rw [show init.length = m - 1 by omega] at hcg
                  have g0 : wr.cell? ⟨g, (m - 1) * 2, none⟩ = some (.int .i64 q.1) := (ho3.cellAt ((m - 1) * 2) (by omega)).trans hcg.1
                  have g1 : wr.cell? ⟨g, (m - 1) * 2 + 1, none⟩ = some (.string q.2) := (ho3.cellAt ((m - 1) * 2 + 1) (by omega)).trans hcg.2
                  have gf : wr.frozen? ⟨g, (m - 1) * 2 + 1, none⟩ = false := ho3.frozenAt _
                  obtain ⟨kq, xq⟩ := q
                  simp only at g0 g1 hqz
                  have HM := Lib.hid hm
                  have HIL := Lib.hid hil
                  have hmb : m ≤ 60000 := by rw [hm]; omega
                  have hm1 : 0 < m := by omega
                  have hm2 : (0 : Int) < (m : Int) := by omega
                  have hm3 : (0 : Int) ≤ ((m - 1 : Nat) : Int) := by omega
                  have hm4 : ((m - 1 : Nat) : Int) < (m : Int) := by omega
                  have sm : IntKind.i64.wrap ((m : Int) - 1) = ((m - 1 : Nat) : Int) := by rw [IntWalk.i64_in _ (by omega)]; omega
                  have q0 : decide ((0 : Int) < (m : Int)) = true := decide_eq_true (by omega)
                  have hsum : xq.size + xp.size ≤ 9223372036854775807 := by omega
                  clear hcg hil hm how hin
                  by_cases h1 : kq = 1
                  · subst h1
                    by_cases h2 : kp = 1
                    · subst h2
                      go_wp2_with fail
                      go_region
                      all_goals
                        go_wp2_with fail
                        obtain rfl := HIL.out
                        refine ⟨⟨n + 1, init ++ [((1, xq ++ xp) : Tok)], rfl, ?_⟩, by simp only [intOf]; omega⟩
                        have h := InL.join (p := (1, xp)) HIN.out hn2 HPM.out HMS.out hg1 rfl rfl
                        rw [Nat.add_sub_cancel]
                        exact h
                    · have e2 : (kp == 1) = false := by simp [h2]
                      go_wp2_with (at_builtin; refine wpList_append_lies _ rfl _ _ 23 rfl w1.heap.size 44 i0 _ 2 24 Tryd.underlying23 hi0 hz0 hz1 hz2 rfl (by decide) _ _ _ rfl (ho3.alloc _) ⟨wr.heap.size, 0, none⟩ 1 1 [.int .i64 kp, .string xp] rfl rfl ?c1bx ?c2bx (by decide) ?c3bx ?c4bx ?c5bx (wr.heap.size + 1) (by simp) ?_)
                      try (case c1bx => exact World.news_of_block (heap_alloc_new wr _))
                      try (case c2bx => simp [Value.oneCell'])
                      try (case c3bx => unfold maxLen; omega)
                      try (case c4bx => omega)
                      try (case c5bx => first | omega | (simp; omega))
                      intro g' cap' w4 hown4 hgrow4 hat4 _
                      obtain rfl := HM.out
                      have hin4 := InL.append (p := (kp, xp)) HIN.out hn2 HPM.out hw1 HMS.out (by rw [pushT_snoc, if_neg (fun h => h2 h.2)]) (by omega) hown4 hgrow4 hat4
                      have HIN4 := Lib.hid hin4
                      clear hin4 hown4 hgrow4 hat4 ho3
                      go_wp2_with fail
                      exact ⟨⟨n + 1, _, rfl, HIN4.out⟩, by simp only [intOf]; omega⟩
                  · have e1 : (kq == 1) = false := by simp [h1]
                    go_wp2_with (at_builtin;  refine wpList_append_lies _ rfl _ _ 23 rfl w1.heap.size 44 i0 _ 2 24 Tryd.underlying23 hi0 hz0 hz1 hz2 rfl (by decide) _ _ _ rfl (ho3.alloc _) ⟨wr.heap.size, 0, none⟩ 1 1 [.int .i64 kp, .string xp] rfl rfl ?c1cx ?c2cx (by decide) ?c3cx ?c4cx ?c5cx (wr.heap.size + 1) (by simp) ?_)
                    try (case c1cx => exact World.news_of_block (heap_alloc_new wr _))
                    try (case c2cx => simp [Value.oneCell'])
                    try (case c3cx => unfold maxLen; omega)
                    try (case c4cx => omega)
                    try (case c5cx => first | omega | (simp; omega))
                    intro g' cap' w4 hown4 hgrow4 hat4 _
                    obtain rfl := HM.out
                    have hin4 := InL.append (p := (kp, xp)) HIN.out hn2 HPM.out hw1 HMS.out (by rw [pushT_snoc, if_neg (fun h => h1 h.1)]) (by omega) hown4 hgrow4 hat4
                    have HIN4 := Lib.hid hin4
                    clear hin4 hown4 hgrow4 hat4 ho3
                    go_wp2_with fail
                    exact ⟨⟨n + 1, _, rfl, HIN4.out⟩, by simp only [intOf]; omega⟩
              · have hnm : n = M.length := by omega
                have hn4 : decide ((n : Int) < (M.length : Int)) = false := by simp; omega
                have ho4 := hin.own
                have hb4 := hin.below
                have hac := hin.hacc
                rw [hnm, List.take_length, ← Hmg.out] at hac
                subst hac
                have Ho4 := Lib.hid ho4
                have Hb4 := Lib.hid hb4
                clear hin ho4 hb4
                go_wp2_with fail
                refine ⟨⟨k + 1, k + 1, _, rfl, Nat.le_refl _, hf4, rfl, rfl, ?_, fun h => h, Ho4.out, Hb4.out⟩, by simp only [intOf]; omega⟩
                rcases HLAST.out with h | h
                · exact .inr (.inl h)
                · exact .inr (.inr h)
      · have hks : k = s.size := by omega
        have hfs := hkf hks
        have hq3 : decide ((k : Int) < (s.size : Int)) = false := by simp; omega
        have hex : s.extract 0 s.size = s := by apply bytj; rw [byt_drop, List.drop_zero]
        rw [hfs, hex] at hown
        obtain ⟨A5, c5, rfl, hE5, _, _⟩ := TksV.of_own hown
        have hsm := RSame_any c c5 A A5 (lexL s) (lexL s) wr (by omega) (HE.out.below hB) hE5
        rw [decide_eq_true rfl] at hsm
        have Hsm := Lib.hid hsm
        have HBr := Lib.hid hB
        clear hsm hown hE5 hB
        go_wp2_with fail
        refine Hsm.out.mono ?_
        rintro e w9 ⟨rfl, hb9⟩
        have hB9 := (hb1.trans (HBr.out.mono hb1.size)).trans (hb9.mono (Nat.le_trans hb1.size HBr.out.size))
        go_wp2_with fail
        refine (alive_any w9 (HT.out.below hB9)).mono ?_
        rintro e wz ⟨rfl, hbz⟩
        go_wp2_with fail
        go_ret
        exact ⟨rfl, hB9.trans (hbz.mono hB9.size)⟩
end Go.Proofs.YtkaceghngjpemaaDoor.lawTokenLines
