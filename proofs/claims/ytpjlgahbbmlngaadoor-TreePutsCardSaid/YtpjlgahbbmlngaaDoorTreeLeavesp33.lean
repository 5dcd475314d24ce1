/-
  Positions as arguments: the statements' short.; Trees: isAlike.; Trees: slices.EqualFunc of nodes with Same's own function.; Trees: Same.
-/
import Derived.Test.YtpjlgahbbmlngaaDoorTreeLeavesp24
import Derived.Test.YtpjlgahbbmlngaaDoorTreeLeavesp32
import Derived.Test.YtpjlgahbbmlngaaDoorTreeLeavesp13
namespace Go.Proofs.YtpjlgahbbmlngaaDoor
set_option linter.unusedVariables false
set_option linter.unusedSimpArgs false
open Go Go.RowKit Go.Deep Go.WideShapes Go.ChangeShapes

/-- a slice of ints, from any cell of a block on -/
def IntsA (w : World) (A : Option Addr) (l : List Int) : Prop :=
  0 < l.length → ∃ b o, A = some ⟨b, o, none⟩ ∧ b < w.heap.size ∧ ∀ (i : Nat) (x : Int), l[i]? = some x → w.cell? ⟨b, o + i, none⟩ = some (Value.int .i64 x)
theorem IntsA.below {w w' : World} {A : Option Addr} {l : List Int} (h : IntsA w A l) (hb : Below w.heap.size w w') : IntsA w' A l := by
  intro hl
  obtain ⟨b, o, rfl, hlt, hg⟩ := h hl
  exact ⟨b, o, rfl, Nat.lt_of_lt_of_le hlt hb.size, fun i x hx => (hb.cell hlt).trans (hg i x hx)⟩
def intVals (l : List Int) : List Value := l.map (Value.int .i64 ·)
theorem IntsR.of_ownI {w : World} {base : Nat} {v : Value} {l : List Int} (h : w.ownsRow base 3 1 v l.length (intVals l)) :
    ∃ A c, v = .slice A l.length c ∧ l.length ≤ c ∧ IntsR w A l := by
  rcases h.2 with ⟨rfl, h0⟩ | ⟨g, cap, cur, rfl, hb, hg, hn, hc, hs, ht⟩
  · have : l = [] := List.eq_nil_of_length_eq_zero h0
    subst this
    exact ⟨none, 0, rfl, Nat.le_refl _, fun hl => by simp at hl⟩
  · refine ⟨some ⟨g, 0, none⟩, cap, rfl, hn, fun hl => ⟨g, rfl, (Array.getElem?_eq_some_iff.1 hg).1, fun i x hx => ?_⟩⟩
    have hi : i < l.length := (List.getElem?_eq_some_iff.1 hx).1
    have e1 : w.cell? ⟨g, i, none⟩ = cur.toList[i]? := by simp [World.cell?, hg]
    rw [e1, ← List.getElem?_take_of_lt (show i < l.length * 1 by omega), ht]
    simp [intVals, hx]

section
variable {H : Type} {enc : TypeId × Value → H} {w : World}
set_option maxRecDepth 100000 in
theorem ints_of_arg {r : Reach} {b0 : Nat} {v : Value} {d : DataW H} {ps : List MemPlace} (hval : Value.okWide Tryd.prog w r b0 51 v) (h : DataW.Trod enc Tryd.prog w 0 (fun _ => true) true 51 v d ps) :
    ∃ (A : Option Addr) (c : Nat) (l : List Int), v = .slice A l.length c ∧ IntsA w A l ∧ l.length ≤ c ∧ c ≤ maxLen := by
  obtain ⟨a, len, cap, rfl⟩ := okWide_slice Tryd.underlying51 hval
  obtain ⟨fuel, hf⟩ := h
  rcases open_slice1 Tryd.underlying51 cells3T hf with ⟨hcs, _⟩ | ⟨a', len', cap', m, n, V, D, Pl, hcs, hb, hl, hm, hmm, _, hi⟩
  · simp [Value.cells] at hcs
    obtain ⟨rfl, rfl, rfl⟩ := hcs
    exact ⟨none, 0, [], rfl, fun hl => by simp at hl, Nat.le_refl _, Nat.zero_le _⟩
  · simp [Value.cells] at hcs
    obtain ⟨rfl, rfl, rfl⟩ := hcs
    have hmc : m = cap := by simpa using hmm
    subst hmc
    obtain ⟨l, hll, hq⟩ := build_listT (Q := fun i (x : Int) => w.cell? (a'.add i) = some (.int .i64 x)) len (fun i hi' => by
      obtain ⟨h1, h2⟩ := hi i (by omega)
      obtain ⟨x, hx, _, _⟩ := DataW.trod_int Tryd.underlying3 h2
      simp at hx
      exact ⟨x, by rw [h1, hx]⟩)
    subst hll
    refine ⟨some a', m, l, rfl, fun hpos => ?_, hl, hm⟩
    have h0 := hq 0 _ (List.getElem?_eq_getElem hpos)
    have hz : a'.add 0 = a' := by simp [Addr.add]
    rw [hz] at h0
    have hsp : a'.spot = none := by
      simp only [World.cell?] at h0
      split at h0
      · split at h0
        · simp at h0
        · rename_i hns; simpa using hns
      · simp at h0
    obtain ⟨b, off, sp⟩ := a'
    simp only at hsp
    subst hsp
    refine ⟨b, off, rfl, ?_, fun i x hx => ?_⟩
    · rcases Nat.lt_or_ge b w.heap.size with hlt | hge
      · exact hlt
      · simp [World.cell?, Array.getElem?_eq_none hge] at h0
    · have := hq i x hx
      have hadd : (⟨b, off, none⟩ : Addr).add i = ⟨b, off + i, none⟩ := by unfold Addr.add; by_cases h1 : i = 0 <;> simp [h1]
      rwa [hadd] at this
end

set_option maxRecDepth 100000 in
set_option maxHeartbeats 2000000 in
theorem short_any (A : Option Addr) (c : Nat) (l : List Int) (w : World) (hl : l.length ≤ c) (hc : c ≤ maxLen) (hA : IntsA w A l) :
    Calls Tryd.prog 36 #[.slice A l.length c] w fun e w' => ∃ v', e = .returned v' ∧ w'.ownsRow w.heap.size 3 1 v' (l.take 40).length (intVals (l.take 40)) ∧ Below w.heap.size w w' := by
  unfold maxLen at hc
  obtain ⟨m, hm⟩ : ∃ m, m = min l.length 40 := ⟨_, rfl⟩
  have hmi : min (l.length : Int) 40 = (m : Int) := by omega
  have h0 : (0 : Int) ≤ (m : Int) := by omega
  have h1 : (m : Int) ≤ (c : Int) := by omega
  have h2 : m ≤ c := by omega
  have hw0 : (w.alloc (.cells #[] 3)).heap[w.heap.size]? = some (.cells #[] 3 (0, 0)) := heap_alloc_new w _
  have hrow : (w.alloc (.cells #[] 3)).ownsRow w.heap.size 3 1 (.slice (some ⟨w.heap.size, 0, none⟩) 0 0) 0 [] :=
    ⟨rfl, .inr ⟨w.heap.size, 0, #[], rfl, Nat.le_refl _, hw0, Nat.le_refl _, Nat.zero_le _, rfl, rfl⟩⟩
  have hB : Below w.heap.size w (w.alloc (.cells #[] 3)) := (Below.refl _ _).alloc (Nat.le_refl _) _
  rcases Nat.eq_zero_or_pos l.length with hz | hpos
  · have hln : l = [] := List.eq_nil_of_length_eq_zero hz
    subst hln
    have hm0 : m = 0 := by simpa using hm
    subst hm0
    have HR := Lib.hid (show _ ∧ _ from ⟨hrow, hB⟩)
    clear hm hmi hA hrow hB hw0
    cases A with
    | none =>
      go_enter Tryd.func36, Tryd.ntmps36
      go_wp2_with fail
      go_ret
      exact ⟨_, rfl, HR.out.1, HR.out.2⟩
    | some a =>
      obtain ⟨i0, hi0, hz0, hz1, hz2⟩ := info_parts infoInt
      have hrow := HR.out.1
      have hbs : w.heap.size ≤ (w.alloc (.cells #[] 3)).heap.size := HR.out.2.size
      go_enter Tryd.func36, Tryd.ntmps36
      go_wp2_with (at_builtin; refine wpList_append_own _ rfl _ _ 51 rfl w.heap.size 3 i0 _ 1 8 Tryd.underlying51 hi0 hz0 hz1 hz2 rfl (by decide) _ 0 [] rfl hrow a 0 c [] rfl rfl (by intro j u hu; simp at hu) (by intro u hu; simp at hu) (by decide) (by decide) hbs ?_)
      intro v' w2 hown hgr _
      have hB2 : Below w.heap.size w w2 := HR.out.2.grown hgr hbs (fun g e => (hrow.lt g e).1)
      have H2 := Lib.hid (show _ ∧ _ from ⟨hown, hB2⟩)
      clear hown hgr hB2
      go_wp2_with fail
      go_ret
      exact ⟨_, rfl, H2.out.1, H2.out.2⟩
  · obtain ⟨b, o, rfl, hb, hg⟩ := hA hpos
    obtain ⟨i0, hi0, hz0, hz1, hz2⟩ := info_parts infoInt
    have hlen : (l.take 40).length = m := by rw [List.length_take]; omega
    have hnl : (intVals (l.take 40)).length = m * 1 := by rw [intVals, List.length_map, hlen]; omega
    have hnews : ∀ j u, (intVals (l.take 40))[j]? = some u → (w.alloc (.cells #[] 3)).cell? ((⟨b, o, none⟩ : Addr).add j) = some u := fun j u hu => by
      have hadd : (⟨b, o, none⟩ : Addr).add j = ⟨b, o + j, none⟩ := by unfold Addr.add; by_cases h1 : j = 0 <;> simp [h1]
      rw [hadd, hB.cell (p := ⟨b, o + j, none⟩) hb]
      simp only [intVals, List.getElem?_map, Option.map_eq_some_iff] at hu
      obtain ⟨x, hx, rfl⟩ := hu
      have hj : j < 40 := by
        have := (List.getElem?_eq_some_iff.1 hx).1
        rw [List.length_take] at this; omega
      exact hg j x (by rwa [List.getElem?_take_of_lt hj] at hx)
    have hone : ∀ u ∈ intVals (l.take 40), u.oneCell' = true := by
      intro u hu
      simp only [intVals, List.mem_map] at hu
      obtain ⟨x, _, rfl⟩ := hu
      rfl
    have h63 : 0 + m ≤ maxLen := by unfold maxLen; omega
    have hby : (0 + m) * 8 ≤ 140737488355328 := by omega
    have hbs : w.heap.size ≤ (w.alloc (.cells #[] 3)).heap.size := hB.size
    have HR := Lib.hid (show _ ∧ _ from ⟨hlen, hB⟩)
    clear hm hA hg hlen hB hw0
    go_enter Tryd.func36, Tryd.ntmps36
    go_wp2_with (at_builtin; refine wpList_append_own _ rfl _ _ 51 rfl w.heap.size 3 i0 _ 1 8 Tryd.underlying51 hi0 hz0 hz1 hz2 rfl (by decide) _ 0 [] rfl hrow ⟨b, o, none⟩ m c (intVals (l.take 40)) rfl hnl hnews hone h63 hby hbs ?_)
    intro v' w2 hown hgr _
    have hB2 : Below w.heap.size w w2 := HR.out.2.grown hgr hbs (fun g e => (hrow.lt g e).1)
    have H2 := Lib.hid (show _ ∧ _ from ⟨hown, hB2⟩)
    clear hown hgr hB2
    go_wp2_with fail
    go_ret
    refine ⟨_, rfl, ?_, H2.out.2⟩
    have := H2.out.1
    rw [HR.out.1]
    simpa using this
end Go.Proofs.YtpjlgahbbmlngaaDoor

namespace Go.Proofs.YtpjlgahbbmlngaaDoor
set_option linter.unusedVariables false
set_option linter.unusedSimpArgs false
open Go.RowKit

def alikeR (k1 k2 : Int) (t1 t2 : Tok) (n1 n2 : Nat) : Bool := decide (k1 = k2) && (decide (t1 = t2) && decide (n1 = n2))

set_option maxRecDepth 100000 in
set_option maxHeartbeats 1000000 in
theorem isAlike_any (k1 k2 tk1 tk2 : Int) (tx1 tx2 : ByteArray) (A1 A2 : Option Addr) (n1 c1 n2 c2 : Nat) (w : World) :
    Calls Tryd.prog 96 #[.agg #[.int .i64 k1, .int .i64 tk1, .string tx1, .slice A1 n1 c1], .agg #[.int .i64 k2, .int .i64 tk2, .string tx2, .slice A2 n2 c2]] w fun e w' => e = .returned (.bool (alikeR k1 k2 (tk1, tx1) (tk2, tx2) n1 n2)) ∧ Below w.heap.size w w' := by
  obtain ⟨w0, hw0⟩ : ∃ w0, w0 = (w.alloc (.cells #[.int .i64 k1, .int .i64 tk1, .string tx1, .slice A1 n1 c1] 26)).alloc (.cells #[.int .i64 k2, .int .i64 tk2, .string tx2, .slice A2 n2 c2] 26) := ⟨_, rfl⟩
  have hB0 : Below w.heap.size w w0 := by rw [hw0]; exact ((Below.refl _ _).alloc (Nat.le_refl _) _).alloc (by simp) _
  have h1 : w0.heap[w.heap.size]? = some (.cells #[.int .i64 k1, .int .i64 tk1, .string tx1, .slice A1 n1 c1] 26 (0, 0)) := by rw [hw0]; exact (Below.heap_alloc _ _ _ (by simp)).trans (heap_alloc_new w _)
  have h2 : w0.heap[w.heap.size + 1]? = some (.cells #[.int .i64 k2, .int .i64 tk2, .string tx2, .slice A2 n2 c2] 26 (0, 0)) := by rw [hw0]; exact heap_alloc2T w _ _
  have a0 : w0.cell? ⟨w.heap.size, 0, none⟩ = some (.int .i64 k1) := Lib.cell_of_heap h1 0
  have a1 : w0.cell? ⟨w.heap.size, 1, none⟩ = some (.int .i64 tk1) := Lib.cell_of_heap h1 1
  have a2 : w0.cell? ⟨w.heap.size, 2, none⟩ = some (.string tx1) := Lib.cell_of_heap h1 2
  have a3 : w0.cell? ⟨w.heap.size, 3, none⟩ = some (.slice A1 n1 c1) := Lib.cell_of_heap h1 3
  have b0 : w0.cell? ⟨w.heap.size + 1, 0, none⟩ = some (.int .i64 k2) := Lib.cell_of_heap h2 0
  have b1 : w0.cell? ⟨w.heap.size + 1, 1, none⟩ = some (.int .i64 tk2) := Lib.cell_of_heap h2 1
  have b2 : w0.cell? ⟨w.heap.size + 1, 2, none⟩ = some (.string tx2) := Lib.cell_of_heap h2 2
  have b3 : w0.cell? ⟨w.heap.size + 1, 3, none⟩ = some (.slice A2 n2 c2) := Lib.cell_of_heap h2 3
  have HB := Lib.hid hB0
  have HW := Lib.hid hw0
  have hr : alikeR k1 k2 (tk1, tx1) (tk2, tx2) n1 n2 = (decide (k1 = k2) && (decide ((tk1, tx1) = (tk2, tx2)) && decide (n1 = n2))) := rfl
  clear hB0 hw0 h1 h2
  by_cases hk : k1 = k2
  · have q0 : (k1 == k2) = true := by simpa using hk
    by_cases ht : tk1 = tk2
    · have q1 : (tk1 == tk2) = true := by simpa using ht
      by_cases hx : tx1 = tx2
      · have e1 : tx1.toList = tx2.toList := by rw [hx]
        have e2 : (tx1.toList == tx2.toList) = true := by simpa using e1
        by_cases hn : n1 = n2
        · have HR : Hid (alikeR k1 k2 (tk1, tx1) (tk2, tx2) n1 n2 = true) := Lib.hid (by rw [hr]; simp [hk, ht, hx, hn])
          have q3 : ((n1 : Int) == (n2 : Int)) = true := by simp [hn]
          clear hr
          go_enter Tryd.func96, Tryd.ntmps96
          go_wp2_with fail
          go_ret
          exact ⟨ret_b HR.out.symm, ((Below.refl _ _).alloc (Nat.le_refl _) _).alloc (by simp) _⟩
        · have HR : Hid (alikeR k1 k2 (tk1, tx1) (tk2, tx2) n1 n2 = false) := Lib.hid (by rw [hr]; simp [hn])
          have q3 : ((n1 : Int) == (n2 : Int)) = false := beq_false_of_ne (by omega)
          clear hr
          go_enter Tryd.func96, Tryd.ntmps96
          go_wp2_with fail
          go_ret
          exact ⟨ret_b HR.out.symm, ((Below.refl _ _).alloc (Nat.le_refl _) _).alloc (by simp) _⟩
      · have e1 : ¬ tx1.toList = tx2.toList := fun h => hx (strs_inj h)
        have e2 : (tx1.toList == tx2.toList) = false := by simpa using e1
        have HR : Hid (alikeR k1 k2 (tk1, tx1) (tk2, tx2) n1 n2 = false) := Lib.hid (by rw [hr]; simp [hx])
        clear hr
        go_enter Tryd.func96, Tryd.ntmps96
        go_wp2_with fail
        go_ret
        exact ⟨ret_b HR.out.symm, ((Below.refl _ _).alloc (Nat.le_refl _) _).alloc (by simp) _⟩
    · have q1 : (tk1 == tk2) = false := beq_false_of_ne ht
      have HR : Hid (alikeR k1 k2 (tk1, tx1) (tk2, tx2) n1 n2 = false) := Lib.hid (by rw [hr]; simp [ht])
      clear hr
      go_enter Tryd.func96, Tryd.ntmps96
      go_wp2_with fail
      go_ret
      exact ⟨ret_b HR.out.symm, ((Below.refl _ _).alloc (Nat.le_refl _) _).alloc (by simp) _⟩
  · have q0 : (k1 == k2) = false := beq_false_of_ne hk
    have HR : Hid (alikeR k1 k2 (tk1, tx1) (tk2, tx2) n1 n2 = false) := Lib.hid (by rw [hr]; simp [hk])
    clear hr
    go_enter Tryd.func96, Tryd.ntmps96
    go_wp2_with fail
    go_ret
    exact ⟨ret_b HR.out.symm, ((Below.refl _ _).alloc (Nat.le_refl _) _).alloc (by simp) _⟩
end Go.Proofs.YtpjlgahbbmlngaaDoor

namespace Go.Proofs.YtpjlgahbbmlngaaDoor
set_option linter.unusedVariables false
set_option linter.unusedSimpArgs false
open Go.RowKit

def eqF (r : Nd → Nd → Bool) : List Nd → List Nd → Bool
  | [], [] => true
  | x :: a, y :: b => r x y && eqF r a b
  | _, _ => false
theorem eqF_len {r : Nd → Nd → Bool} : ∀ {a b : List Nd}, a.length ≠ b.length → eqF r a b = false
  | [], [], h => absurd rfl h
  | [], _ :: _, _ => rfl
  | _ :: _, [], _ => rfl
  | x :: a, y :: b, h => by
    have := eqF_len (r := r) (a := a) (b := b) (by simpa using h)
    simp [eqF, this]
theorem eqF_drop {r : Nd → Nd → Bool} {a b : List Nd} {k : Nat} (h1 : k < a.length) (h2 : k < b.length) : eqF r (a.drop k) (b.drop k) = (r a[k] b[k] && eqF r (a.drop (k + 1)) (b.drop (k + 1))) := by
  rw [List.drop_eq_getElem_cons h1, List.drop_eq_getElem_cons h2]
  rfl

set_option maxRecDepth 100000 in
set_option maxHeartbeats 2000000 in
theorem EqF_any (p : Nat) (c1 c2 : Nat) (A1 A2 : Option Addr) (l1 l2 : List Nd) (r : Nd → Nd → Bool) (w : World) (hl : l1.length ≤ 1000000000) (hE1 : KidsV w A1 l1) (hE2 : KidsV w A2 l2)
    (hcall : ∀ W, Below w.heap.size w W → ∀ x ∈ l1, ∀ y ∈ l2, ∀ v1 v2, NodeV W v1 x → NodeV W v2 y → Calls Tryd.prog 98 #[v1, v2, .pointer (some ⟨p, 0, none⟩)] W fun e w' => e = .returned (.bool (r x y)) ∧ Below W.heap.size W w') :
    Calls Tryd.prog 97 #[.slice A1 l1.length c1, .slice A2 l2.length c2, .func (.func 98) #[] #[.pointer (some ⟨p, 0, none⟩)]] w fun e w' => e = .returned (.bool (eqF r l1 l2)) ∧ Below w.heap.size w w' := by
  by_cases hlen : l1.length = l2.length
  · have q : ((l1.length : Int) != (l2.length : Int)) = false := by simp; omega
    have HL := Lib.hid hlen
    have HC := Lib.hid hcall
    have HE1 := Lib.hid hE1
    have HE2 := Lib.hid hE2
    clear hlen hcall hE1 hE2
    go_enter Tryd.func97, Tryd.ntmps97
    go_wp2_with fail
    go_loopw [7, 8, 9, 17] (fun _ _ _ i wr => ∃ (k : Nat), k ≤ l1.length ∧ i = .int .i64 k ∧ eqF r l1 l2 = eqF r (l1.drop k) (l2.drop k) ∧ Below w.heap.size w wr) (fun _ _ _ i _ => l1.length - (intOf i).toNat)
    case atStart => exact ⟨0, Nat.zero_le _, rfl, rfl, Below.refl _ _⟩
    case round =>
      obtain ⟨k, hk, rfl, he, hB⟩ := hrel
      have hk0 : (0 : Int) ≤ (k : Int) := by omega
      by_cases hlt : k < l1.length
      · have hlt2 : k < l2.length := by have := HL.out; omega
        have hk1 : (k : Int) < (l1.length : Int) := by omega
        have hk2 : (k : Int) < (l2.length : Int) := by omega
        obtain ⟨b1, o1, rfl, n1⟩ := HE1.out (by omega)
        obtain ⟨b2, o2, rfl, n2⟩ := HE2.out (by omega)
        obtain ⟨B1, d1, s1, x0, x1, x2, x3, xk⟩ := (n1.kept hB).get (List.getElem?_eq_getElem hlt)
        obtain ⟨B2, d2, s2, y0, y1, y2, y3, yk⟩ := (n2.kept hB).get (List.getElem?_eq_getElem hlt2)
        have hm1 := List.getElem_mem hlt
        have hm2 := List.getElem_mem hlt2
        rw [eqF_drop hlt hlt2] at he
        obtain ⟨x, hx⟩ : ∃ x, x = l1[k] := ⟨_, rfl⟩
        obtain ⟨y, hy⟩ : ∃ y, y = l2[k] := ⟨_, rfl⟩
        rw [← hx] at x0 x1 x2 x3 xk hm1 he
        rw [← hy] at y0 y1 y2 y3 yk hm2 he
        clear hx hy n1 n2
        obtain ⟨kx, ⟨tx, sx⟩, lx⟩ := x
        obtain ⟨ky, ⟨ty, sy⟩, ly⟩ := y
        simp only [Nd.kind, Nd.tok, Nd.kids] at x0 x1 x2 x3 xk y0 y1 y2 y3 yk
        obtain ⟨w2, hw2⟩ : ∃ w2, w2 = (wr.alloc (.cells #[.int .i64 kx, .int .i64 tx, .string sx, .slice B1 lx.length d1] 26)).alloc (.cells #[.int .i64 ky, .int .i64 ty, .string sy, .slice B2 ly.length d2] 26) := ⟨_, rfl⟩
        have hbr : Below wr.heap.size wr w2 := by rw [hw2]; exact ((Below.refl _ _).alloc (Nat.le_refl _) _).alloc (by simp) _
        have hB2 := hB.trans (hbr.mono hB.size)
        have hcl := HC.out w2 hB2 _ hm1 _ hm2 _ _ ⟨B1, d1, rfl, xk.below hbr⟩ ⟨B2, d2, rfl, yk.below hbr⟩
        simp only [Nd.kind, Nd.tok, Nd.kids] at hcl
        generalize r (.mk kx (tx, sx) lx) (.mk ky (ty, sy) ly) = q1 at he hcl
        have HCl := Lib.hid hcl
        have HW := Lib.hid hw2
        have HB2 := Lib.hid hB2
        have He := Lib.hid he
        have hsr : wr.heap.size < w2.heap.size := by rw [hw2]; simp; omega
        clear hcl hw2 hbr hB2 he hm1 hm2 xk yk hB
        go_wp2_with fail
        rw [← HW.out]
        refine HCl.out.mono ?_
        rintro e w3 ⟨rfl, hb3⟩
        have HB3 := Lib.hid (HB2.out.trans (hb3.mono HB2.out.size))
        clear hb3
        cases q1
        · go_wp2_with fail
          go_ret
          exact ⟨ret_b (by rw [He.out]; rfl), HB3.out⟩
        · go_wp2_with fail
          exact ⟨⟨k + 1, by omega, by go_num, by rw [He.out]; rfl, HB3.out⟩, by simp [intOf]; omega⟩
      · have hke : k = l1.length := by omega
        subst hke
        have hr : eqF r l1 l2 = true := by
          rw [he, List.drop_length, HL.out, List.drop_length]; rfl
        have HR := Lib.hid hr
        clear he hr
        go_wp2_with fail
        go_ret
        exact ⟨ret_b HR.out.symm, hB⟩
  · have q : ((l1.length : Int) != (l2.length : Int)) = true := by simp; omega
    have HR := Lib.hid (eqF_len (r := r) hlen)
    clear hcall hE1 hE2
    go_enter Tryd.func97, Tryd.ntmps97
    go_wp2_with fail
    go_ret
    exact ⟨ret_b HR.out.symm, Below.refl _ _⟩
end Go.Proofs.YtpjlgahbbmlngaaDoor

namespace Go.Proofs.YtpjlgahbbmlngaaDoor
set_option linter.unusedVariables false
set_option linter.unusedSimpArgs false
open Go.RowKit

/-- the same, and no deeper than so many levels less one -/
def sameT : Nat → Nd → Nd → Bool
  | 0, _, _ => false
  | m + 1, a, b => alikeR a.kind b.kind a.tok b.tok a.kids.length b.kids.length && eqF (sameT m) a.kids b.kids
/-- lists of kids that are not too long, so many levels down -/
def SmallN : Nat → Nd → Prop
  | 0, _ => True
  | m + 1, a => a.kids.length ≤ 1000000000 ∧ ∀ x ∈ a.kids, SmallN m x

set_option maxRecDepth 100000 in
set_option maxHeartbeats 2000000 in
theorem sameTo1_any (m : Nat) (hm : m ≤ 65536) (p : Nat) (a b : Nd) (va vb : Value) (w : World) (hp : w.cell? ⟨p, 0, none⟩ = some (.int .i64 (m : Int))) (ha : NodeV w va a) (hb : NodeV w vb b)
    (ih : ∀ W, Below w.heap.size w W → ∀ va vb, NodeV W va a → NodeV W vb b → Calls Tryd.prog 71 #[.int .i64 ((m : Int) - 1), va, vb] W fun e w' => e = .returned (.bool (sameT m a b)) ∧ Below W.heap.size W w') :
    Calls Tryd.prog 98 #[va, vb, .pointer (some ⟨p, 0, none⟩)] w fun e w' => e = .returned (.bool (sameT m a b)) ∧ Below w.heap.size w w' := by
  obtain ⟨A1, c1, rfl, h1⟩ := ha
  obtain ⟨A2, c2, rfl, h2⟩ := hb
  obtain ⟨w0, hw0⟩ : ∃ w0, w0 = (w.alloc (.cells #[.int .i64 a.kind, .int .i64 a.tok.1, .string a.tok.2, .slice A1 a.kids.length c1] 26)).alloc (.cells #[.int .i64 b.kind, .int .i64 b.tok.1, .string b.tok.2, .slice A2 b.kids.length c2] 26) := ⟨_, rfl⟩
  have hB0 : Below w.heap.size w w0 := by rw [hw0]; exact ((Below.refl _ _).alloc (Nat.le_refl _) _).alloc (by simp) _
  have hc := ih w0 hB0 _ _ ⟨A1, c1, rfl, h1.below hB0⟩ ⟨A2, c2, rfl, h2.below hB0⟩
  have hp0 : w0.cell? ⟨p, 0, none⟩ = some (.int .i64 (m : Int)) := by rw [hB0.cell (lt_of_cell hp)]; exact hp
  have HC := Lib.hid hc
  have HW := Lib.hid hw0
  have HB := Lib.hid hB0
  have hpw := lt_of_cell hp
  simp only at hpw
  clear hc hw0 hB0 ih h1 h2
  generalize a.tok = t1 at *
  generalize b.tok = t2 at *
  generalize sameT m a b = r at *
  go_enter Tryd.func98, Tryd.ntmps98
  go_wp2_with fail
  rw [← HW.out]
  refine HC.out.mono ?_
  rintro e w2 ⟨rfl, hb2⟩
  go_wp2_with fail
  go_ret
  exact ⟨rfl, HB.out.trans (hb2.mono HB.out.size)⟩

set_option maxRecDepth 100000 in
set_option maxHeartbeats 2000000 in
theorem sameTo_any : ∀ (m : Nat), m ≤ 65537 → ∀ (a b : Nd) (va vb : Value) (w : World), SmallN m a → NodeV w va a → NodeV w vb b →
    Calls Tryd.prog 71 #[.int .i64 ((m : Int) - 1), va, vb] w fun e w' => e = .returned (.bool (sameT m a b)) ∧ Below w.heap.size w w'
  | 0, _, a, b, va, vb, w, _, ha, hb => by
    obtain ⟨A1, c1, rfl, h1⟩ := ha
    obtain ⟨A2, c2, rfl, h2⟩ := hb
    have e0 : ((0 : Nat) : Int) - 1 = -1 := rfl
    rw [e0]
    clear h1 h2
    go_enter Tryd.func71, Tryd.ntmps71
    go_wp2_with fail
    go_ret
    exact ⟨rfl, (((Below.refl _ _).alloc (Nat.le_refl _) _).alloc (by simp) _).alloc (by simp; omega) _⟩
  | m + 1, hm, a, b, va, vb, w, hs, ha, hb => by
    have IH := sameTo_any m (by omega)
    obtain ⟨A1, c1, rfl, h1⟩ := ha
    obtain ⟨A2, c2, rfl, h2⟩ := hb
    have e0 : ((m + 1 : Nat) : Int) - 1 = (m : Int) := by omega
    rw [e0]
    obtain ⟨w0, hw0⟩ : ∃ w0, w0 = ((w.alloc (.cells #[.int .i64 (m : Int)] 3)).alloc (.cells #[.int .i64 a.kind, .int .i64 a.tok.1, .string a.tok.2, .slice A1 a.kids.length c1] 26)).alloc (.cells #[.int .i64 b.kind, .int .i64 b.tok.1, .string b.tok.2, .slice A2 b.kids.length c2] 26) := ⟨_, rfl⟩
    have hB0 : Below w.heap.size w w0 := by rw [hw0]; exact (((Below.refl _ _).alloc (Nat.le_refl _) _).alloc (by simp) _).alloc (by simp; omega) _
    have hb0 : w0.heap[w.heap.size]? = some (.cells #[.int .i64 (m : Int)] 3 (0, 0)) := by rw [hw0]; exact (Below.heap_alloc _ _ _ (by simp; omega)).trans ((Below.heap_alloc _ _ _ (by simp)).trans (heap_alloc_new w _))
    have hb1 : w0.heap[w.heap.size + 1]? = some (.cells #[.int .i64 a.kind, .int .i64 a.tok.1, .string a.tok.2, .slice A1 a.kids.length c1] 26 (0, 0)) := by
      rw [hw0]
      refine (Below.heap_alloc _ _ _ (by simp)).trans ?_
      have := heap_alloc_new (w.alloc (.cells #[.int .i64 (m : Int)] 3)) (.cells #[.int .i64 a.kind, .int .i64 a.tok.1, .string a.tok.2, .slice A1 a.kids.length c1] 26)
      simpa using this
    have hb2 : w0.heap[w.heap.size + 2]? = some (.cells #[.int .i64 b.kind, .int .i64 b.tok.1, .string b.tok.2, .slice A2 b.kids.length c2] 26 (0, 0)) := by
      rw [hw0]
      have := heap_alloc_new ((w.alloc (.cells #[.int .i64 (m : Int)] 3)).alloc (.cells #[.int .i64 a.kind, .int .i64 a.tok.1, .string a.tok.2, .slice A1 a.kids.length c1] 26)) (.cells #[.int .i64 b.kind, .int .i64 b.tok.1, .string b.tok.2, .slice A2 b.kids.length c2] 26)
      simpa using this
    have g0 : w0.cell? ⟨w.heap.size, 0, none⟩ = some (.int .i64 (m : Int)) := Lib.cell_of_heap hb0 0
    have p0 : w0.cell? ⟨w.heap.size + 1, 0, none⟩ = some (.int .i64 a.kind) := Lib.cell_of_heap hb1 0
    have p1 : w0.cell? ⟨w.heap.size + 1, 1, none⟩ = some (.int .i64 a.tok.1) := Lib.cell_of_heap hb1 1
    have p2 : w0.cell? ⟨w.heap.size + 1, 2, none⟩ = some (.string a.tok.2) := Lib.cell_of_heap hb1 2
    have p3 : w0.cell? ⟨w.heap.size + 1, 3, none⟩ = some (.slice A1 a.kids.length c1) := Lib.cell_of_heap hb1 3
    have r0 : w0.cell? ⟨w.heap.size + 2, 0, none⟩ = some (.int .i64 b.kind) := Lib.cell_of_heap hb2 0
    have r1 : w0.cell? ⟨w.heap.size + 2, 1, none⟩ = some (.int .i64 b.tok.1) := Lib.cell_of_heap hb2 1
    have r2 : w0.cell? ⟨w.heap.size + 2, 2, none⟩ = some (.string b.tok.2) := Lib.cell_of_heap hb2 2
    have r3 : w0.cell? ⟨w.heap.size + 2, 3, none⟩ = some (.slice A2 b.kids.length c2) := Lib.cell_of_heap hb2 3
    have hal := fun W => isAlike_any a.kind b.kind a.tok.1 b.tok.1 a.tok.2 b.tok.2 A1 A2 a.kids.length c1 b.kids.length c2 W
    have heq := fun W (hW : Below w0.heap.size w0 W) => EqF_any w.heap.size c1 c2 A1 A2 a.kids b.kids (sameT m) W hs.1 ((h1.below hB0).below hW) ((h2.below hB0).below hW) (fun W2 hW2 x hx y hy v1 v2 hv1 hv2 => by
      refine sameTo1_any m (by omega) w.heap.size x y v1 v2 W2 ?_ hv1 hv2 (fun W3 hW3 va vb h3 h4 => IH x y va vb W3 (hs.2 x hx) h3 h4)
      rw [hW2.cell (Nat.lt_of_lt_of_le (lt_of_cell g0) hW.size), hW.cell (lt_of_cell g0)]
      exact g0)
    have hr : sameT (m + 1) a b = (alikeR a.kind b.kind a.tok b.tok a.kids.length b.kids.length && eqF (sameT m) a.kids b.kids) := rfl
    have hk0 : (0 : Int) ≤ (m : Int) := by omega
    have HAl := Lib.hid hal
    have HEq := Lib.hid heq
    have HB := Lib.hid hB0
    have HW := Lib.hid hw0
    have hsz : w.heap.size + 2 < w0.heap.size := lt_of_cell r0
    clear hal heq hB0 hw0 hb0 hb1 hb2 hs h1 h2 IH g0
    rw [show ((a.tok.1, a.tok.2) : Tok) = a.tok from rfl] at HAl
    generalize hA : alikeR a.kind b.kind a.tok b.tok a.kids.length b.kids.length = al at *
    generalize sameT (m + 1) a b = rs at *
    generalize eqF (sameT m) a.kids b.kids = ef at *
    cases al
    · have HR := Lib.hid hr
      clear hr
      go_enter Tryd.func71, Tryd.ntmps71
      go_wp2_with fail
      rw [← HW.out]
      refine (HAl.out w0).mono ?_
      rintro e w2 ⟨rfl, hb2⟩
      have hB2 := HB.out.trans (hb2.mono HB.out.size)
      clear p0 p1 p2 p3 r0 r1 r2 r3
      first | rw [hA] | skip
      go_wp2_with fail
      go_ret
      exact ⟨ret_b (by rw [HR.out]; rfl), hB2⟩
    · have HR := Lib.hid hr
      clear hr
      go_enter Tryd.func71, Tryd.ntmps71
      go_wp2_with fail
      rw [← HW.out]
      refine (HAl.out w0).mono ?_
      rintro e w2 ⟨rfl, hb2⟩
      have hB2 := Lib.hid (HB.out.trans (hb2.mono HB.out.size))
      have s3 : w2.cell? ⟨w.heap.size + 1, 3, none⟩ = some (.slice A1 a.kids.length c1) := by rw [hb2.cell (by simp only; omega)]; exact p3
      have u3 : w2.cell? ⟨w.heap.size + 2, 3, none⟩ = some (.slice A2 b.kids.length c2) := by rw [hb2.cell (by simp only; omega)]; exact r3
      have heq2 := HEq.out w2 hb2
      clear p0 p1 p2 p3 r0 r1 r2 r3 hb2
      first | rw [hA] | skip
      go_wp2_with fail
      refine heq2.mono ?_
      rintro e w3 ⟨rfl, hb3⟩
      go_wp2_with fail
      go_ret
      exact ⟨ret_b (by rw [HR.out]; rfl), hB2.out.trans (hb3.mono hB2.out.size)⟩
end Go.Proofs.YtpjlgahbbmlngaaDoor
