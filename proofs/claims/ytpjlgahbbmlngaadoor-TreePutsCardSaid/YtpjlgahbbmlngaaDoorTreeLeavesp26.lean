/-
  Trees: the specification's formed.; Trees: the specification's IsFormed.; Trees: the program's IsFormed and the specification's say the same.; Trees: nodes in memory whose blocks are known; a row of nodes that a call made.
-/
import Derived.Test.YtpjlgahbbmlngaaDoorTreeLeavesp25
import Derived.Test.YtpjlgahbbmlngaaDoorTreeLeavesp14
namespace Go.Proofs.YtpjlgahbbmlngaaDoor
set_option linter.unusedVariables false
set_option linter.unusedSimpArgs false
open Go Go.RowKit

-- what the specification's formed says at a depth
mutual
def formR : Nd → Nat → Bool
  | .mk k t l, d => decide (d ≤ 1000) && (decide (1 ≤ k) && (decide (k ≤ 28) && (if k = 1 then decide (l.length = 0) && isTok t else decide (t = (0, ByteArray.empty)) && (!(decide (k = 28) && decide (0 < l.length)) && formRL l (d + 1)))))
def formRL : List Nd → Nat → Bool
  | [], _ => true
  | n :: l, d => formR n d && formRL l d
end
-- no token of it is long
mutual
def smT : Nd → Prop
  | .mk _ t l => t.2.size ≤ 60000 ∧ smTL l
def smTL : List Nd → Prop
  | [] => True
  | n :: l => smT n ∧ smTL l
end
theorem smTL_at : ∀ {l : List Nd} {k : Nat} {x : Nd}, smTL l → l[k]? = some x → smT x
  | y :: l, 0, x, hs, h => by obtain rfl := Option.some.inj h; simp only [smTL] at hs; exact hs.1
  | y :: l, k + 1, x, hs, h => by simp only [smTL] at hs; exact smTL_at (l := l) (k := k) hs.2 (by simpa using h)
theorem smT_is : ∀ {n : Nd}, smT n → n.tok.2.size ≤ 60000 ∧ smTL n.kids
  | .mk _ _ _, h => h
theorem formR_is : ∀ (n : Nd) (d : Nat), formR n d = (decide (d ≤ 1000) && (decide (1 ≤ n.kind) && (decide (n.kind ≤ 28) && (if n.kind = 1 then decide (n.kids.length = 0) && isTok n.tok else decide (n.tok = (0, ByteArray.empty)) && (!(decide (n.kind = 28) && decide (0 < n.kids.length)) && formRL n.kids (d + 1))))))
  | .mk _ _ _, _ => rfl
theorem formRL_drop {l : List Nd} {k : Nat} {x : Nd} {d : Nat} (h : l[k]? = some x) : formRL (l.drop k) d = (formR x d && formRL (l.drop (k + 1)) d) := by
  obtain ⟨hlt, he⟩ := List.getElem?_eq_some_iff.1 h
  rw [List.drop_eq_getElem_cons hlt, he]; rfl

set_option maxRecDepth 100000 in
set_option maxHeartbeats 2000000 in
theorem RFormed_any : ∀ (m : Nat) (n : Nd) (d : Nat) (v : Value) (w : World), deepN n < m → d ≤ 1001 → countN n ≤ 10000000 → smT n → NodeV w v n →
    Calls Tryd.prog 55 #[v, .int .i64 (d : Nat)] w fun e w' => e = .returned (.bool (formR n d)) ∧ Below w.heap.size w w'
  | 0, n, d, v, w, h, _, _, _, _ => absurd h (Nat.not_lt_zero _)
  | m + 1, .mk kd (tk, tx) l, d, v, w, hm, hdd, hn, hS, hV => by
    have IH := RFormed_any m
    have hV : ∃ A c, v = .agg #[.int .i64 kd, .int .i64 tk, .string tx, .slice A l.length c] ∧ KidsV w A l := hV
    obtain ⟨A, c, rfl, hk⟩ := hV
    obtain ⟨w0, hw0⟩ : ∃ w0, w0 = w.alloc (.cells #[.int .i64 kd, .int .i64 tk, .string tx, .slice A l.length c] 26) := ⟨_, rfl⟩
    have hB0 : Below w.heap.size w w0 := by rw [hw0]; exact (Below.refl _ _).alloc (Nat.le_refl _) _
    have hb0 : w0.heap[w.heap.size]? = some (.cells #[.int .i64 kd, .int .i64 tk, .string tx, .slice A l.length c] 26 (0, 0)) := by rw [hw0]; exact heap_alloc_new w _
    have p0 : w0.cell? ⟨w.heap.size, 0, none⟩ = some (.int .i64 kd) := Lib.cell_of_heap hb0 0
    have p1 : w0.cell? ⟨w.heap.size, 1, none⟩ = some (.int .i64 tk) := Lib.cell_of_heap hb0 1
    have p2 : w0.cell? ⟨w.heap.size, 2, none⟩ = some (.string tx) := Lib.cell_of_heap hb0 2
    have p3 : w0.cell? ⟨w.heap.size, 3, none⟩ = some (.slice A l.length c) := Lib.cell_of_heap hb0 3
    have hsz : w.heap.size < w0.heap.size := lt_of_cell p3
    have hK0 := hk.below hB0
    have hs : formR (.mk kd (tk, tx) l) d = (decide (d ≤ 1000) && (decide (1 ≤ kd) && (decide (kd ≤ 28) && (if kd = 1 then decide (l.length = 0) && isTok (tk, tx) else decide (((tk, tx) : Tok) = (0, ByteArray.empty)) && (!(decide (kd = 28) && decide (0 < l.length)) && formRL l (d + 1)))))) := rfl
    have hm : deepL l < m + 1 := hm
    have hn : 1 + countL l ≤ 10000000 := hn
    have hlc := countL_len l
    have hct : countL l ≤ 10000000 := by omega
    have hl1 : l.length ≤ 10000000 := by omega
    have hI := fun W => RIsTok_any tk tx W (smT_is hS).1
    have HI := Lib.hid hI
    have HW := Lib.hid hw0
    have HB0 := Lib.hid hB0
    have HK := Lib.hid hK0
    have HIH := Lib.hid IH
    have HM := Lib.hid hm
    have HCT := Lib.hid hct
    have hst : smTL l := (smT_is hS).2
    have HST := Lib.hid hst
    generalize formR (.mk kd (tk, tx) l) d = R at *
    clear hn hk hb0 hw0 hB0 hK0 IH hm hct hlc hS hI hst
    cases ha : decide ((1000 : Int) < (d : Int))
    case true =>
      have HR : Hid (R = false) := Lib.hid (by rw [hs, decide_eq_false (by have := of_decide_eq_true ha; omega)]; rfl)
      clear hs
      go_enter Tryd.func55, Tryd.ntmps55
      go_wp2_with fail
      go_ret
      exact ⟨ret_b HR.out.symm, by rw [← HW.out]; exact HB0.out⟩
    have ha' : d ≤ 1000 := by have := of_decide_eq_false ha; omega
    rw [decide_eq_true ha'] at hs
    cases hb : decide (kd < (1 : Int))
    case true =>
      have HR : Hid (R = false) := Lib.hid (by rw [hs, decide_eq_false (p := 1 ≤ kd) (by have := of_decide_eq_true hb; omega)]; rfl)
      clear hs
      go_enter Tryd.func55, Tryd.ntmps55
      go_wp2_with fail
      go_ret
      exact ⟨ret_b HR.out.symm, by rw [← HW.out]; exact HB0.out⟩
    have hb' : 1 ≤ kd := by have := of_decide_eq_false hb; omega
    rw [decide_eq_true hb'] at hs
    cases hc : decide ((28 : Int) < kd)
    case true =>
      have HR : Hid (R = false) := Lib.hid (by rw [hs, decide_eq_false (p := kd ≤ 28) (by have := of_decide_eq_true hc; omega)]; rfl)
      clear hs
      go_enter Tryd.func55, Tryd.ntmps55
      go_wp2_with fail
      go_ret
      exact ⟨ret_b HR.out.symm, by rw [← HW.out]; exact HB0.out⟩
    have hc' : kd ≤ 28 := by have := of_decide_eq_false hc; omega
    rw [decide_eq_true hc'] at hs
    simp only [Bool.true_and] at hs
    by_cases h1 : kd = 1
    · subst h1
      rw [if_pos rfl] at hs
      rcases Nat.eq_zero_or_pos l.length with hl0 | hl0
      · have HR : Hid (R = isTok (tk, tx)) := Lib.hid (by rw [hs, decide_eq_true hl0]; rfl)
        rw [hl0] at p3 HW
        clear hs
        go_enter Tryd.func55, Tryd.ntmps55
        go_wp2_with fail
        rw [hl0]
        try go_wp2_with fail
        rw [← HW.out]
        refine (HI.out w0).mono ?_
        rintro e w2 ⟨rfl, hb2⟩
        go_wp2_with fail
        go_ret
        exact ⟨ret_b HR.out.symm, HB0.out.trans (hb2.mono HB0.out.size)⟩
      · have HR : Hid (R = false) := Lib.hid (by rw [hs, decide_eq_false (by omega)]; rfl)
        have q0 : ((l.length : Int) == 0) = false := beq_false_of_ne (by omega)
        clear hs
        go_enter Tryd.func55, Tryd.ntmps55
        go_wp2_with fail
        go_ret
        exact ⟨ret_b HR.out.symm, by rw [← HW.out]; exact HB0.out⟩
    · rw [if_neg h1] at hs
      have q1 : (kd == 1) = false := beq_false_of_ne h1
      by_cases hk0 : tk = 0
      case neg =>
        have HR : Hid (R = false) := Lib.hid (by rw [hs, decide_eq_false (fun h => hk0 (congrArg Prod.fst h))]; rfl)
        have e1 : (tk == 0) = false := beq_false_of_ne hk0
        clear hs
        go_enter Tryd.func55, Tryd.ntmps55
        go_wp2_with fail
        go_ret
        exact ⟨ret_b HR.out.symm, by rw [← HW.out]; exact HB0.out⟩
      subst hk0
      by_cases hx0 : tx = ByteArray.empty
      case neg =>
        have HR : Hid (R = false) := Lib.hid (by rw [hs, decide_eq_false (fun h => hx0 (congrArg Prod.snd h))]; rfl)
        have e1 : ¬ tx.toList = [] := fun h => hx0 (strs_inj (h.trans (by decide +kernel)))
        have e2 : (tx.toList == ([] : List UInt8)) = false := by simpa using e1
        clear hs
        go_enter Tryd.func55, Tryd.ntmps55
        go_wp2_with fail
        go_ret
        exact ⟨ret_b HR.out.symm, by rw [← HW.out]; exact HB0.out⟩
      subst hx0
      rw [decide_eq_true rfl] at hs
      have e1 : ByteArray.empty.toList = [] := by decide +kernel
      have e2 : (ByteArray.empty.toList == ([] : List UInt8)) = true := by decide +kernel
      by_cases h2 : kd = 28 ∧ 0 < l.length
      · obtain ⟨rfl, hpos⟩ := h2
        have HR : Hid (R = false) := Lib.hid (by rw [hs, decide_eq_true (p := 0 < l.length) hpos]; rfl)
        have q0 : decide ((0 : Int) < (l.length : Int)) = true := decide_eq_true (by omega)
        have q0n : decide (0 < l.length) = true := decide_eq_true hpos
        clear hs
        go_enter Tryd.func55, Tryd.ntmps55
        go_wp2_with fail
        go_ret
        exact ⟨ret_b HR.out.symm, by rw [← HW.out]; exact HB0.out⟩
      · have hs2 : R = formRL l (d + 1) := by
          rw [hs]
          have : (decide (kd = 28) && decide (0 < l.length)) = false := by
            rcases Decidable.not_and_iff_or_not.1 h2 with h | h
            · rw [decide_eq_false h]; rfl
            · rw [decide_eq_false h]; simp
          rw [this]; rfl
        have HR := Lib.hid hs2
        clear hs hs2
        have e4 : IntKind.i64.wrap ((d : Int) + 1) = ((d + 1 : Nat) : Int) := by rw [IntWalk.i64_in _ (by omega)]; omega
        have hl3 : kd = 28 → l.length = 0 := fun h => by
          rcases Nat.eq_zero_or_pos l.length with h5 | h5
          · exact h5
          · exact absurd ⟨h, h5⟩ h2
        have HL3 := Lib.hid hl3
        clear h2 hl3
        cases h28 : (kd == 28)
        case true =>
          have hl0 : l.length = 0 := HL3.out (by simpa using h28)
          have q0 : decide ((0 : Int) < (l.length : Int)) = false := decide_eq_false (by omega)
          have q0n : decide (0 < l.length) = false := decide_eq_false (by omega)
          have HR2 : Hid (R = true) := Lib.hid (by rw [HR.out, List.eq_nil_of_length_eq_zero hl0]; rfl)
          have HL0 := Lib.hid hl0
          clear hl0
          go_enter Tryd.func55, Tryd.ntmps55
          go_wp2_with fail
          rw [← HW.out]
          go_loopw [5] (fun i wr => i = .int .i64 0 ∧ wr = w0) (fun _ _ => 0)
          case atStart => exact ⟨rfl, rfl⟩
          case round =>
            obtain ⟨rfl, rfl⟩ := hrel
            have q5 : decide ((0 : Int) < (l.length : Int)) = false := q0
            go_wp2_with fail
            go_ret
            exact ⟨ret_b HR2.out.symm, HB0.out⟩
        case false =>
          have hne : kd ≠ 28 := by simpa using h28
          go_enter Tryd.func55, Tryd.ntmps55
          go_wp2_with fail
          rw [← HW.out]
          go_loopw [5] (fun i wr => ∃ (k : Nat), k ≤ l.length ∧ i = .int .i64 k ∧ formRL l (d + 1) = formRL (l.drop k) (d + 1) ∧ Below w0.heap.size w0 wr) (fun i _ => l.length - (intOf i).toNat)
          case atStart => exact ⟨0, Nat.zero_le _, rfl, rfl, Below.refl _ _⟩
          case round =>
            obtain ⟨k, hk, rfl, he, hB⟩ := hrel
            have q3 : wr.cell? ⟨w.heap.size, 3, none⟩ = some (.slice A l.length c) := (hB.cell hsz).trans p3
            have HB := Lib.hid hB
            by_cases hlt : k < l.length
            · have hk0 : (0 : Int) ≤ (k : Int) := by omega
              have hk1 : (k : Int) < (l.length : Int) := by omega
              have hx0 : l[k]? = some l[k] := List.getElem?_eq_getElem hlt
              obtain ⟨b, o, rfl, n1⟩ := (HK.out.below hB) (by omega)
              obtain ⟨x, hx⟩ : ∃ x, x = l[k] := ⟨_, rfl⟩
              rw [← hx] at hx0
              obtain ⟨B1, d1, s1, x0, x1, x2, x3, xk⟩ := n1.get hx0
              have hxc := countL_next hx0
              have hxd := countL_cut l (k + 1)
              have hdx := deepL_at hx0
              have hcl := HIH.out x (d + 1) (.agg #[.int .i64 x.kind, .int .i64 x.tok.1, .string x.tok.2, .slice B1 x.kids.length d1]) wr (by have := HM.out; omega) (by omega) (by have := HCT.out; omega) (smTL_at HST.out hx0) ⟨B1, d1, rfl, xk⟩
              rw [formRL_drop hx0] at he
              generalize formR x (d + 1) = q at he hcl
              have hd1 : ((d + 1 : Nat) : Int) = (d : Int) + 1 := by omega
              rw [hd1] at hcl
              have He := Lib.hid he
              have HCl := Lib.hid hcl
              clear hx hx0 n1 xk hcl hxc hxd hdx hB he hd1
              have e3 : IntKind.i64.wrap ((k : Int) + 1) = ((k + 1 : Nat) : Int) := by rw [IntWalk.i64_in _ (by omega)]; omega
              go_wp2_with fail
              refine HCl.out.mono ?_
              rintro e w2 ⟨rfl, hb2⟩
              have HB2 := Lib.hid (HB.out.trans (hb2.mono HB.out.size))
              clear hb2
              cases q
              · go_wp2_with fail
                go_ret
                exact ⟨ret_b (by rw [HR.out, He.out]; rfl), HB0.out.trans (HB2.out.mono HB0.out.size)⟩
              · go_wp2_with fail
                exact ⟨⟨k + 1, by omega, by go_num, by rw [He.out]; rfl, HB2.out⟩, by simp [intOf]; omega⟩
            · have hke : k = l.length := by omega
              subst hke
              have HR2 : Hid (R = true) := Lib.hid (by rw [HR.out, he, List.drop_length]; rfl)
              clear he
              go_wp2_with fail
              go_ret
              exact ⟨ret_b HR2.out.symm, HB0.out.trans (HB.out.mono HB0.out.size)⟩
end Go.Proofs.YtpjlgahbbmlngaaDoor

namespace Go.Proofs.YtpjlgahbbmlngaaDoor
set_option linter.unusedVariables false
set_option linter.unusedSimpArgs false
open Go Go.RowKit

mutual
theorem sumF_one_le : ∀ n : Nd, sumF (fun _ => 1) n ≤ countN n
  | .mk k t l => by
    have := sumFL_one_le l
    simp only [sumF, countN]
    split <;> omega
theorem sumFL_one_le : ∀ l : List Nd, sumFL (fun _ => 1) l ≤ countL l
  | [] => Nat.le_refl _
  | n :: l => by
    have h1 := sumF_one_le n
    have h2 := sumFL_one_le l
    simp only [sumFL, countL]; omega
end
/-- what the specification's IsFormed says -/
def rFormB (n : Nd) : Bool := formR n 0 && decide (sumF (fun _ => 1) n ≤ 20000)

set_option maxRecDepth 100000 in
set_option maxHeartbeats 2000000 in
theorem RIsFormed_any (n : Nd) (v : Value) (w : World) (hn : countN n ≤ 10000000) (hS : smT n) (hV : NodeV w v n) :
    Calls Tryd.prog 16 #[v] w fun e w' => e = .returned (.bool (rFormB n)) ∧ Below w.heap.size w w' := by
  obtain ⟨A, c, rfl, hk⟩ := hV
  obtain ⟨w0, hw0⟩ : ∃ w0, w0 = w.alloc (.cells #[.int .i64 n.kind, .int .i64 n.tok.1, .string n.tok.2, .slice A n.kids.length c] 26) := ⟨_, rfl⟩
  have hB0 : Below w.heap.size w w0 := by rw [hw0]; exact (Below.refl _ _).alloc (Nat.le_refl _) _
  have hb0 : w0.heap[w.heap.size]? = some (.cells #[.int .i64 n.kind, .int .i64 n.tok.1, .string n.tok.2, .slice A n.kids.length c] 26 (0, 0)) := by rw [hw0]; exact heap_alloc_new w _
  have p0 : w0.cell? ⟨w.heap.size, 0, none⟩ = some (.int .i64 n.kind) := Lib.cell_of_heap hb0 0
  have p1 : w0.cell? ⟨w.heap.size, 1, none⟩ = some (.int .i64 n.tok.1) := Lib.cell_of_heap hb0 1
  have p2 : w0.cell? ⟨w.heap.size, 2, none⟩ = some (.string n.tok.2) := Lib.cell_of_heap hb0 2
  have p3 : w0.cell? ⟨w.heap.size, 3, none⟩ = some (.slice A n.kids.length c) := Lib.cell_of_heap hb0 3
  have hsz : w.heap.size < w0.heap.size := lt_of_cell p3
  have hV0 : NodeV w0 (.agg #[.int .i64 n.kind, .int .i64 n.tok.1, .string n.tok.2, .slice A n.kids.length c]) n := ⟨A, c, rfl, hk.below hB0⟩
  have hle := sumF_one_le n
  have hc1 := RFormed_any (deepN n + 1) n 0 _ w0 (Nat.lt_succ_self _) (by omega) hn hS hV0
  have hc2 := fun W (h : Below w0.heap.size w0 W) => RLeaves_any (deepN n + 1) n _ W (Nat.lt_succ_self _) hn (by omega) (hV0.below h)
  have hr : rFormB n = (formR n 0 && decide (sumF (fun _ => 1) n ≤ 20000)) := rfl
  have e0 : ((0 : Nat) : Int) = 0 := rfl
  rw [e0] at hc1
  have HR := Lib.hid hr
  have HC1 := Lib.hid hc1
  have HC2 := Lib.hid hc2
  have HB := Lib.hid hB0
  have HW := Lib.hid hw0
  clear hr hc1 hc2 hB0 hw0 hb0 hk hV0 hle hn hS e0
  generalize rFormB n = R at *
  generalize formR n 0 = f at *
  generalize sumF (fun _ => 1) n = s at *
  generalize n.kids = l at *
  generalize n.kind = kd at *
  generalize n.tok = tk at *
  go_enter Tryd.func16, Tryd.ntmps16
  go_wp2_with fail
  rw [← HW.out]
  refine HC1.out.mono ?_
  rintro e w2 ⟨rfl, hb2⟩
  have q0 : w2.cell? ⟨w.heap.size, 0, none⟩ = some (.int .i64 kd) := (hb2.cell hsz).trans p0
  have q1 : w2.cell? ⟨w.heap.size, 1, none⟩ = some (.int .i64 tk.1) := (hb2.cell hsz).trans p1
  have q2 : w2.cell? ⟨w.heap.size, 2, none⟩ = some (.string tk.2) := (hb2.cell hsz).trans p2
  have q3 : w2.cell? ⟨w.heap.size, 3, none⟩ = some (.slice A l.length c) := (hb2.cell hsz).trans p3
  have hc2 := HC2.out w2 hb2
  have HC := Lib.hid hc2
  have HB2 := Lib.hid (HB.out.trans (hb2.mono HB.out.size))
  clear hb2 hc2 p0 p1 p2 p3
  cases f
  · go_wp2_with fail
    go_ret
    exact ⟨ret_b HR.out.symm, HB2.out⟩
  · go_wp2_with fail
    refine HC.out.mono ?_
    rintro e w3 ⟨rfl, hb3⟩
    have hq : decide ((s : Int) ≤ (20000 : Int)) = decide (s ≤ 20000) := by
      by_cases h : s ≤ 20000
      · rw [decide_eq_true h, decide_eq_true (by omega)]
      · rw [decide_eq_false h, decide_eq_false (by omega)]
    have HQ := Lib.hid hq
    clear hq
    go_wp2_with fail
    go_ret
    exact ⟨ret_b (by rw [HR.out]; first | rfl | exact HQ.out | simp), HB2.out.trans (hb3.mono HB2.out.size)⟩
end Go.Proofs.YtpjlgahbbmlngaaDoor

namespace Go.Proofs.YtpjlgahbbmlngaaDoor
set_option linter.unusedVariables false
set_option linter.unusedSimpArgs false
open Go Go.RowKit

theorem deepL_nil : deepL [] = 0 := rfl
theorem isPart_else {k : Int} {t : Tok} {l : List Nd} (h1 : ¬ k = 1) : isPartN (.mk k t l) = if k = 28 ∧ l.isEmpty = false then false else decide (2 ≤ k) && decide (k ≤ 28) && decide (t = (0, ByteArray.empty)) := if_neg h1
theorem isPart_one {t : Tok} {l : List Nd} : isPartN (.mk 1 t l) = (l.isEmpty && isTok t) := rfl
mutual
theorem formR_iff : ∀ (n : Nd) (d : Nat), formR n d = true ↔ (partsN n = true ∧ d + deepN n ≤ 1000)
  | .mk k t l, d => by
    have ih := formRL_iff l d
    simp only [formR, partsN, deepN, Bool.and_eq_true, decide_eq_true_eq]
    by_cases h1 : k = 1
    · subst h1
      rw [isPart_one]
      cases l with
      | nil => simp [partsL, deepL_nil, and_comm]
      | cons y l => simp
    · rw [if_neg h1, isPart_else h1]
      by_cases hd : d ≤ 1000
      · have ih := ih hd
        cases l with
        | nil =>
          simp [partsL, formRL, hd]
          have := deepL_nil
          constructor <;> intro h <;> grind
        | cons y l =>
          by_cases h28 : k = 28
          · subst h28; simp
          · simp [h28, ih]
            constructor <;> intro h <;> grind
      · constructor
        · intro h; exact absurd h.1 hd
        · intro h; exact absurd h.2 (by omega)
theorem formRL_iff : ∀ (l : List Nd) (d : Nat), d ≤ 1000 → (formRL l (d + 1) = true ↔ (partsL l = true ∧ d + deepL l ≤ 1000))
  | [], d, hd => by simp [formRL, partsL, deepL_nil]; omega
  | n :: l, d, hd => by
    have h1 := formR_iff n (d + 1)
    have h2 := formRL_iff l d hd
    simp only [formRL, partsL, deepL, Bool.and_eq_true, h1, h2]
    constructor
    · rintro ⟨⟨a, b⟩, c, e⟩; exact ⟨⟨a, c⟩, by omega⟩
    · rintro ⟨⟨a, c⟩, b⟩; exact ⟨⟨a, by omega⟩, c, by omega⟩
end

mutual
theorem sumF_map (g : Tok → Nat) : ∀ n : Nd, partsN n = true → sumF g n = ((leavesN n).map g).sum
  | .mk k t l, h => by
    have ih := sumFL_map g l
    simp only [partsN, Bool.and_eq_true] at h
    by_cases h1 : k = 1
    · subst h1
      rw [isPart_one] at h
      cases l with
      | nil => simp [sumF, leavesN, leavesL]
      | cons y l => simp at h
    · simp only [sumF, leavesN, if_neg h1, List.nil_append]
      exact ih h.2
theorem sumFL_map (g : Tok → Nat) : ∀ l : List Nd, partsL l = true → sumFL g l = ((leavesL l).map g).sum
  | [], _ => rfl
  | n :: l, h => by
    simp only [partsL, Bool.and_eq_true] at h
    simp only [sumFL, leavesL, List.map_append, List.sum_append, sumF_map g n h.1, sumFL_map g l h.2]
end
theorem sum_ones : ∀ l : List Tok, (l.map fun _ => 1).sum = l.length
  | [] => rfl
  | x :: l => by simp only [List.map_cons, List.sum_cons, List.length_cons, sum_ones l]; omega
theorem rFormB_eq (n : Nd) : rFormB n = formedB n := by
  unfold rFormB formedB
  have h := formR_iff n 0
  rw [Bool.eq_iff_iff]
  simp only [Bool.and_eq_true, decide_eq_true_eq, h, Nat.zero_add]
  constructor
  · rintro ⟨⟨a, b⟩, c⟩
    rw [sumF_map _ n a, sum_ones] at c
    exact ⟨⟨a, b⟩, c⟩
  · rintro ⟨⟨a, b⟩, c⟩
    refine ⟨⟨a, b⟩, ?_⟩
    rw [sumF_map _ n a, sum_ones]
    exact c
end Go.Proofs.YtpjlgahbbmlngaaDoor

namespace Go.Proofs.YtpjlgahbbmlngaaDoor
set_option linter.unusedVariables false
set_option linter.unusedSimpArgs false
open Go Go.RowKit

/-- nodes that lie one behind the other, all their blocks (and those of what is in them) as P says -/
inductive NdsP (P : Nat → Prop) (w : World) : Nat → Nat → List Nd → Prop
  | nil {b o : Nat} : NdsP P w b o []
  | leaf {b o : Nat} {k tk : Int} {tx : ByteArray} {A : Option Addr} {c : Nat} {l : List Nd} : P b → b < w.heap.size → w.cell? ⟨b, o, none⟩ = some (.int .i64 k) → w.cell? ⟨b, o + 1, none⟩ = some (.int .i64 tk) → w.cell? ⟨b, o + 2, none⟩ = some (.string tx) → w.cell? ⟨b, o + 3, none⟩ = some (.slice A 0 c) → NdsP P w b (o + 4) l → NdsP P w b o (.mk k (tk, tx) [] :: l)
  | node {b o b' o' : Nat} {k tk : Int} {tx : ByteArray} {c : Nat} {n : Nd} {m l : List Nd} : P b → b < w.heap.size → w.cell? ⟨b, o, none⟩ = some (.int .i64 k) → w.cell? ⟨b, o + 1, none⟩ = some (.int .i64 tk) → w.cell? ⟨b, o + 2, none⟩ = some (.string tx) → w.cell? ⟨b, o + 3, none⟩ = some (.slice (some ⟨b', o', none⟩) (n :: m).length c) → (n :: m).length ≤ c → NdsP P w b' o' (n :: m) → NdsP P w b (o + 4) l → NdsP P w b o (.mk k (tk, tx) (n :: m) :: l)
theorem NdsP.at {P : Nat → Prop} {w : World} {b o : Nat} {l : List Nd} (h : NdsP P w b o l) : NdsAt w b o l := by
  induction h with
  | nil => exact .nil
  | leaf _ h1 c0 c1 c2 c3 _ ih => exact .leaf h1 c0 c1 c2 c3 ih
  | node _ h1 c0 c1 c2 c3 _ _ _ ih1 ih2 => exact .node h1 c0 c1 c2 c3 ih1 ih2
theorem NdsP.kept {P P' : Nat → Prop} {w w' : World} (hs : w.heap.size ≤ w'.heap.size) (hk : ∀ b, P b → b < w.heap.size → w'.heap[b]? = w.heap[b]?) (hp : ∀ b, P b → b < w.heap.size → P' b) {b o : Nat} {l : List Nd} (h : NdsP P w b o l) : NdsP P' w' b o l := by
  have cl : ∀ b j, P b → b < w.heap.size → w'.cell? ⟨b, j, none⟩ = w.cell? ⟨b, j, none⟩ := fun b j h1 h2 => World.cell?_of_block (w := w) (hk b h1 h2)
  induction h with
  | nil => exact .nil
  | leaf p h1 c0 c1 c2 c3 _ ih => exact .leaf (hp _ p h1) (Nat.lt_of_lt_of_le h1 hs) ((cl _ _ p h1).trans c0) ((cl _ _ p h1).trans c1) ((cl _ _ p h1).trans c2) ((cl _ _ p h1).trans c3) ih
  | node p h1 c0 c1 c2 c3 hc _ _ ih1 ih2 => exact .node (hp _ p h1) (Nat.lt_of_lt_of_le h1 hs) ((cl _ _ p h1).trans c0) ((cl _ _ p h1).trans c1) ((cl _ _ p h1).trans c2) ((cl _ _ p h1).trans c3) hc ih1 ih2
def KidsP (P : Nat → Prop) (w : World) (A : Option Addr) (l : List Nd) : Prop := 0 < l.length → ∃ b o, A = some ⟨b, o, none⟩ ∧ NdsP P w b o l
theorem KidsP.kids {P : Nat → Prop} {w : World} {A : Option Addr} {l : List Nd} (h : KidsP P w A l) : KidsV w A l := fun hl => by
  obtain ⟨b, o, he, hn⟩ := h hl
  exact ⟨b, o, he, hn.at⟩
theorem KidsP.kept {P P' : Nat → Prop} {w w' : World} {A : Option Addr} {l : List Nd} (h : KidsP P w A l) (hs : w.heap.size ≤ w'.heap.size) (hk : ∀ b, P b → b < w.heap.size → w'.heap[b]? = w.heap[b]?) (hp : ∀ b, P b → b < w.heap.size → P' b) : KidsP P' w' A l := fun hl => by
  obtain ⟨b, o, he, hn⟩ := h hl
  exact ⟨b, o, he, hn.kept hs hk hp⟩
theorem KidsP.below {P P' : Nat → Prop} {w w' : World} {A : Option Addr} {l : List Nd} (h : KidsP P w A l) (hb : Below w.heap.size w w') (hp : ∀ b, P b → b < w.heap.size → P' b) : KidsP P' w' A l := h.kept hb.size (fun b _ h2 => hb.block b h2) hp
/-- a node as a value, all of its kids' blocks as P says -/
def NodeP (P : Nat → Prop) (w : World) (v : Value) (n : Nd) : Prop := ∃ A c, v = .agg #[.int .i64 n.kind, .int .i64 n.tok.1, .string n.tok.2, .slice A n.kids.length c] ∧ n.kids.length ≤ c ∧ KidsP P w A n.kids
theorem NodeP.node {P : Nat → Prop} {w : World} {v : Value} {n : Nd} (h : NodeP P w v n) : NodeV w v n := by
  obtain ⟨A, c, rfl, _, hk⟩ := h
  exact ⟨A, c, rfl, hk.kids⟩
theorem NodeP.below {P P' : Nat → Prop} {w w' : World} {v : Value} {n : Nd} (h : NodeP P w v n) (hb : Below w.heap.size w w') (hp : ∀ b, P b → b < w.heap.size → P' b) : NodeP P' w' v n := by
  obtain ⟨A, c, rfl, hc, hk⟩ := h
  exact ⟨A, c, rfl, hc, hk.below hb hp⟩
theorem NdsP.add {P : Nat → Prop} {w : World} {b o : Nat} {l : List Nd} : ∀ (y : Pn), P b → b < w.heap.size → w.cell? ⟨b, o, none⟩ = some (.int .i64 y.1.kind) → w.cell? ⟨b, o + 1, none⟩ = some (.int .i64 y.1.tok.1) → w.cell? ⟨b, o + 2, none⟩ = some (.string y.1.tok.2) → w.cell? ⟨b, o + 3, none⟩ = some (.slice y.2.1 y.1.kids.length y.2.2) →
    y.1.kids.length ≤ y.2.2 → KidsP P w y.2.1 y.1.kids → NdsP P w b (o + 4) l → NdsP P w b o (y.1 :: l)
  | (.mk k (tk, tx) [], A, c), p, h1, c0, c1, c2, c3, _, _, hl => .leaf p h1 c0 c1 c2 c3 hl
  | (.mk k (tk, tx) (n :: m), A, c), p, h1, c0, c1, c2, c3, hc, hk, hl => by
    obtain ⟨b', o', rfl, hn⟩ := hk (by simp [Nd.kids])
    exact .node p h1 c0 c1 c2 c3 hc hn hl
theorem NdsP.of_cells {P : Nat → Prop} {w : World} {b : Nat} (hp : P b) (hb : b < w.heap.size) : ∀ (ys : List Pn) (o : Nat),
    (∀ (i : Nat) (y : Pn), ys[i]? = some y → w.cell? ⟨b, o + i * 4, none⟩ = some (.int .i64 y.1.kind) ∧ w.cell? ⟨b, o + i * 4 + 1, none⟩ = some (.int .i64 y.1.tok.1) ∧ w.cell? ⟨b, o + i * 4 + 2, none⟩ = some (.string y.1.tok.2) ∧ w.cell? ⟨b, o + i * 4 + 3, none⟩ = some (.slice y.2.1 y.1.kids.length y.2.2) ∧ y.1.kids.length ≤ y.2.2 ∧ KidsP P w y.2.1 y.1.kids) →
    NdsP P w b o (ys.map (·.1))
  | [], _, _ => .nil
  | y :: ys, o, h => by
    obtain ⟨c0, c1, c2, c3, hc, hk⟩ := h 0 y rfl
    simp only [Nat.zero_mul, Nat.add_zero] at c0 c1 c2 c3
    refine NdsP.add y hp hb c0 c1 c2 c3 hc hk (NdsP.of_cells hp hb ys (o + 4) fun i z hz => ?_)
    have := h (i + 1) z (by simpa using hz)
    rw [show o + 4 + i * 4 = o + (i + 1) * 4 by omega]
    exact this
/-- a row of nodes that a call made -/
theorem KidsP.of_own {P : Nat → Prop} {w : World} {base e : Nat} {v : Value} {ys : List Pn} (h : w.ownsRow base e 4 v ys.length (pathCells ys)) (hP : ∀ g, v.ownBlock = some g → P g) (hk : ∀ (i : Nat) (y : Pn), ys[i]? = some y → y.1.kids.length ≤ y.2.2 ∧ KidsP P w y.2.1 y.1.kids) :
    ∃ A c, v = .slice A (ys.map (·.1)).length c ∧ (ys.map (·.1)).length ≤ c ∧ KidsP P w A (ys.map (·.1)) := by
  rcases h.2 with ⟨rfl, h0⟩ | ⟨g, cap, cur, rfl, hb, hg, hn, hc, hs, ht⟩
  · have : ys = [] := List.eq_nil_of_length_eq_zero h0
    subst this
    exact ⟨none, 0, rfl, Nat.le_refl _, fun hl => by simp at hl⟩
  · refine ⟨some ⟨g, 0, none⟩, cap, by rw [List.length_map], by rw [List.length_map]; exact hn, fun hl => ⟨g, 0, rfl, NdsP.of_cells (hP g rfl) (Array.getElem?_eq_some_iff.1 hg).1 ys 0 fun i y he => ?_⟩⟩
    obtain ⟨h1, h2, h3, h4⟩ := pathCells_get ys i y he
    have hi : i < ys.length := (List.getElem?_eq_some_iff.1 he).1
    have hcell : ∀ j, j < ys.length * 4 → w.cell? ⟨g, j, none⟩ = (pathCells ys)[j]? := by
      intro j hj
      rw [← ht, List.getElem?_take_of_lt hj]
      simp [World.cell?, hg]
    simp only [Nat.zero_add]
    exact ⟨by rw [hcell _ (by omega)]; exact h1, by rw [hcell _ (by omega)]; exact h2, by rw [hcell _ (by omega)]; exact h3, by rw [hcell _ (by omega)]; exact h4, hk i y he⟩
end Go.Proofs.YtpjlgahbbmlngaaDoor
