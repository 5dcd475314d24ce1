/-
  Contracts of sameBegin, sameEnd and Diff.
-/
import Derived.Test.YtmdgclcakogggaaSame
import Derived.Test.YtmdgclcakogggaaMathC
namespace Go.Proofs.Ytmdgclcakogggaa
set_option linter.unusedVariables false
set_option linter.unusedSimpArgs false
open Go.RowKit

set_option maxHeartbeats 1000000 in
theorem sameBegin_any (a b : ByteArray) (w : World) (ha : a.size ≤ 60000) (hb : b.size ≤ 60000) :
    Calls Try.prog 46 #[.string a, .string b] w fun e w' => e = .returned (.int .i64 (cpre (byt a) (byt b))) ∧ ∃ n, w' = w.drewN n := by
  go_enter Try.func46, Try.ntmps46
  go_wp2_with fail
  have hmin : min (a.size : Int) (b.size : Int) = (min a.size b.size : Nat) := by omega
  rw [hmin]
  clear hmin
  generalize hM : min a.size b.size = M at *
  have HM := Lib.hid hM
  clear hM
  go_loopw [13] (fun i wr => ∃ (k : Nat), k ≤ M ∧ i = .int .i64 k ∧ cpre (byt a) (byt b) = k + cpre ((byt a).drop k) ((byt b).drop k) ∧ ∃ n, wr = w.drewN n) (fun i _ => M - (intOf i).toNat)
  case atStart => exact ⟨0, by omega, rfl, by simp, 0, rfl⟩
  case round =>
    obtain ⟨k, hk, rfl, he, n, rfl⟩ := hrel
    have hm := HM.out
    by_cases hlt : k < M
    · have h1 : k < a.size := by omega
      have h2 : k < b.size := by omega
      have g1 : k < (byt a).length := by rw [byt_length]; exact h1
      have g2 : k < (byt b).length := by rw [byt_length]; exact h2
      by_cases hq : a[k] = b[k]
      · have q : ((a[k].toNat : Int) != (b[k].toNat : Int)) = false := by simp [hq]
        have He : Hid (cpre (byt a) (byt b) = k + 1 + cpre ((byt a).drop (k + 1)) ((byt b).drop (k + 1))) := Lib.hid (by rw [he, cpre_step g1 g2 hq]; omega)
        clear he hq hm
        go_wp2_with fail
        go_quiet (fail)
        go_wp2_with fail
        exact ⟨⟨k + 1, by omega, by go_num, He.out, _, rfl⟩, by simp [intOf]; omega⟩
      · have q : ((a[k].toNat : Int) != (b[k].toNat : Int)) = true := by
          rw [bne_iff_ne]
          intro h
          exact hq (UInt8.toNat_inj.1 (by omega))
        have He : Hid (cpre (byt a) (byt b) = k) := Lib.hid (by rw [he, cpre_stop g1 g2 hq]; omega)
        clear he hq hm
        go_wp2_with fail
        go_quiet (fail)
        go_wp2_with fail
        go_ret
        exact ⟨ret_int (by rw [He.out]), n + nq, by rw [World.drewN_drewN]⟩
    · have He : Hid (cpre (byt a) (byt b) = M) := Lib.hid (by rw [he, cpre_end (by rw [byt_length, byt_length]; omega)]; omega)
      clear he hm
      go_wp2_with fail
      go_ret
      exact ⟨ret_int (by rw [He.out]), _, rfl⟩

set_option maxHeartbeats 1000000 in
theorem sameEnd_any (a b : ByteArray) (w : World) (ha : a.size ≤ 60000) (hb : b.size ≤ 60000) :
    Calls Try.prog 47 #[.string a, .string b] w fun e w' => e = .returned (.int .i64 (cpre (byt a).reverse (byt b).reverse)) ∧ ∃ n, w' = w.drewN n := by
  go_enter Try.func47, Try.ntmps47
  go_wp2_with fail
  have hmin : min (a.size : Int) (b.size : Int) = (min a.size b.size : Nat) := by omega
  rw [hmin]
  clear hmin
  generalize hM : min a.size b.size = M at *
  have HM := Lib.hid hM
  clear hM
  go_loopw [13] (fun i wr => ∃ (k : Nat), k ≤ M ∧ i = .int .i64 k ∧ cpre (byt a).reverse (byt b).reverse = k + cpre ((byt a).reverse.drop k) ((byt b).reverse.drop k) ∧ ∃ n, wr = w.drewN n) (fun i _ => M - (intOf i).toNat)
  case atStart => exact ⟨0, by omega, rfl, by simp, 0, rfl⟩
  case round =>
    obtain ⟨k, hk, rfl, he, n, rfl⟩ := hrel
    have hm := HM.out
    by_cases hlt : k < M
    · have h1 : k < a.size := by omega
      have h2 : k < b.size := by omega
      have g1 : k < (byt a).reverse.length := by rw [rev_length]; exact h1
      have g2 : k < (byt b).reverse.length := by rw [rev_length]; exact h2
      have r1 := rev_get a k h1 g1
      have r2 := rev_get b k h2 g2
      have s1 : IntKind.i64.wrap ((a.size : Int) - 1) = (a.size : Int) - 1 := IntWalk.i64_in _ (by omega)
      have s2 : IntKind.i64.wrap ((b.size : Int) - 1) = (b.size : Int) - 1 := IntWalk.i64_in _ (by omega)
      have s3 : IntKind.i64.wrap ((a.size : Int) - 1 - (k : Int)) = ((a.size - 1 - k : Nat) : Int) := by rw [IntWalk.i64_in _ (by omega)]; omega
      have s4 : IntKind.i64.wrap ((b.size : Int) - 1 - (k : Int)) = ((b.size - 1 - k : Nat) : Int) := by rw [IntWalk.i64_in _ (by omega)]; omega
      have n1 : a.size - 1 - k < a.size := by omega
      have n2 : b.size - 1 - k < b.size := by omega
      by_cases hq : (byt a).reverse[k] = (byt b).reverse[k]
      · have He : Hid (cpre (byt a).reverse (byt b).reverse = k + 1 + cpre ((byt a).reverse.drop (k + 1)) ((byt b).reverse.drop (k + 1))) := Lib.hid (by rw [he, cpre_step g1 g2 hq]; omega)
        rw [r1, r2] at hq
        have q : ((a[a.size - 1 - k].toNat : Int) != (b[b.size - 1 - k].toNat : Int)) = false := by simp [hq]
        clear he hq hm r1 r2
        go_wp2_with fail
        go_quiet (fail)
        go_wp2_with fail
        exact ⟨⟨k + 1, by omega, by go_num, He.out, _, rfl⟩, by simp [intOf]; omega⟩
      · have He : Hid (cpre (byt a).reverse (byt b).reverse = k) := Lib.hid (by rw [he, cpre_stop g1 g2 hq]; omega)
        rw [r1, r2] at hq
        have q : ((a[a.size - 1 - k].toNat : Int) != (b[b.size - 1 - k].toNat : Int)) = true := by
          rw [bne_iff_ne]
          intro h
          exact hq (UInt8.toNat_inj.1 (by omega))
        clear he hq hm r1 r2
        go_wp2_with fail
        go_quiet (fail)
        go_wp2_with fail
        go_ret
        exact ⟨ret_int (by rw [He.out]), n + nq, by rw [World.drewN_drewN]⟩
    · have He : Hid (cpre (byt a).reverse (byt b).reverse = M) := Lib.hid (by rw [he, cpre_end (by rw [rev_length, rev_length]; omega)]; omega)
      clear he hm
      go_wp2_with fail
      go_ret
      exact ⟨ret_int (by rw [He.out]), _, rfl⟩

theorem quiet_add {P : Program} {f : FuncId} {args : Array Value} {w : World} {a n : Nat} {v : Value}
    (h : Calls P f args (w.drewN (a + n)) fun e w' => e = .returned v ∧ ∃ m, w' = (w.drewN (a + n)).drewN m) :
    Calls P f args (w.drewN (a + n)) fun e w'' => e = .returned v ∧ ∃ m, w'' = w.drewN (a + m) :=
  h.mono fun _ _ ⟨he, m, hm⟩ => ⟨he, n + m, by rw [hm, World.drewN_drewN, Nat.add_assoc]⟩
theorem quiet_add' {P : Program} {f : FuncId} {args : Array Value} {w : World} {a n : Nat} {v : Value}
    (h : Calls P f args ((w.drewN a).drewN n) fun e w' => e = .returned v ∧ ∃ m, w' = ((w.drewN a).drewN n).drewN m) :
    Calls P f args ((w.drewN a).drewN n) fun e w'' => e = .returned v ∧ ∃ m, w'' = (w.drewN a).drewN m :=
  h.mono fun _ _ ⟨he, m, hm⟩ => ⟨he, n + m, by rw [hm, World.drewN_drewN]⟩

def diffErr (a b : ByteArray) : Int := if 20000 < a.size ∨ 20000 < b.size then 3 else 0
def diffR (a b : ByteArray) : List Ed := if diffErr a b = 0 then diffL a b else []
/-- a block that holds the cells of l reads as l -/
theorem EdsV.block {w : World} {g e : Nat} {cs : Array Value} {fz : Nat × Nat} {l : List Ed} (h : w.heap[g]? = some (.cells cs e fz)) (hc : cs.toList = edsCells l) : EdsV w (some ⟨g, 0, none⟩) l := by
  intro _
  refine ⟨g, 0, rfl, ?_, fun i x hx => ?_⟩
  · rcases Nat.lt_or_ge g w.heap.size with hlt | hge
    · exact hlt
    · rw [Array.getElem?_eq_none hge] at h; cases h
  · have hcell : ∀ j, w.cell? ⟨g, j, none⟩ = (edsCells l)[j]? := by
      intro j
      rw [← hc]
      simp [World.cell?, h]
    obtain ⟨h1, h2, h3⟩ := edsCells_get l i x hx
    simp only [Nat.zero_add]
    exact ⟨by rw [hcell]; exact h1, by rw [hcell]; exact h2, by rw [hcell]; exact h3⟩
/-- a slice and an error come back -/
def GivesEds (w : World) (l : List Ed) (err : Int) (e : Ending) (w' : World) : Prop :=
  ∃ A c, e = .returned (.tuple #[.slice A l.length c, .int .i64 err]) ∧ EdsV w' A l ∧ (∀ ad, A = some ad → w.heap.size ≤ ad.block) ∧ Below w.heap.size w w'
theorem GivesEds.empty {w w' : World} {err : Int} (h : Below w.heap.size w w') : GivesEds w [] err (.returned (.tuple #[.slice none 0 0, .int .i64 err])) w' :=
  ⟨none, 0, rfl, EdsV.nil _ _, (fun _ hx => by cases hx), h⟩

set_option maxRecDepth 100000 in
set_option maxHeartbeats 1000000 in
theorem Diff_any (a b : ByteArray) (w : World) (ha : a.size ≤ 60000) (hb : b.size ≤ 60000) :
    Calls Try.prog 22 #[.string a, .string b] w (GivesEds w (diffR a b) (diffErr a b)) := by
  by_cases hbig : 20000 < a.size ∨ 20000 < b.size
  · have h1 : diffErr a b = 3 := by unfold diffErr; rw [if_pos hbig]
    have h2 : diffR a b = [] := by unfold diffR; rw [if_neg (by omega)]
    rw [h1, h2]
    clear h1 h2
    by_cases h3 : 20000 < a.size
    all_goals
      go_enter Try.func22, Try.ntmps22
      go_wp2_with fail
      go_ret2
      exact GivesEds.empty (Below.refl _ _)
  · have h1 : diffErr a b = 0 := by unfold diffErr; rw [if_neg hbig]
    have ha2 : a.size ≤ 20000 := by omega
    have hb2 : b.size ≤ 20000 := by omega
    have h2 : diffR a b = diffL a b := by unfold diffR; rw [if_pos h1]
    rw [h1, h2]
    clear h1 h2 hbig
    by_cases heq : a = b
    · subst heq
      have h1 : diffL a a = [] := by unfold diffL; simp
      rw [h1]
      clear h1
      go_enter Try.func22, Try.ntmps22
      go_wp2_with fail
      go_ret2
      exact GivesEds.empty (Below.refl _ _)
    · have q : (a.toList == b.toList) = false := by
        rw [beq_eq_false_iff_ne]
        exact fun h => heq (toList_inj h)
      have hp := cpre_le (byt a) (byt b)
      rw [byt_length, byt_length] at hp
      have hq := cpre_le ((byt a).drop (cpre (byt a) (byt b))).reverse ((byt b).drop (cpre (byt a) (byt b))).reverse
      rw [List.length_reverse, List.length_reverse, List.length_drop, List.length_drop, byt_length, byt_length] at hq
      have h1 : diffL a b = [⟨cpre (byt a) (byt b), (a.size : Int) - cpre ((byt a).drop (cpre (byt a) (byt b))).reverse ((byt b).drop (cpre (byt a) (byt b))).reverse,
        b.extract (cpre (byt a) (byt b)) (b.size - cpre ((byt a).drop (cpre (byt a) (byt b))).reverse ((byt b).drop (cpre (byt a) (byt b))).reverse)⟩] := by unfold diffL; rw [if_neg heq]
      rw [h1]
      clear h1 heq
      generalize hP : cpre (byt a) (byt b) = p at *
      have HP := Lib.hid hP
      clear hP
      generalize hQ : cpre ((byt a).drop p).reverse ((byt b).drop p).reverse = r at *
      have HQ := Lib.hid hQ
      clear hQ
      obtain ⟨hp1, hp2⟩ := hp
      obtain ⟨hq1, hq2⟩ := hq
      go_enter Try.func22, Try.ntmps22
      go_wp2_with fail
      refine (sameBegin_any a b w ha hb).mono ?_
      rintro e w1 ⟨rfl, n, rfl⟩
      rw [HP.out]
      go_wp2_with fail
      have hsE : ∀ W, Calls Try.prog 47 #[.string (a.extract p a.size), .string (b.extract p b.size)] W fun e w' => e = .returned (.int .i64 (r : Int)) ∧ ∃ n, w' = W.drewN n := fun W => by
        have := sameEnd_any (a.extract p a.size) (b.extract p b.size) W (by rw [ByteArray.size_extract]; omega) (by rw [ByteArray.size_extract]; omega)
        rw [byt_drop, byt_drop, HQ.out] at this
        exact this
      have HsE := Lib.hid hsE
      clear hsE
      go_quiet ((go_at_call 47; first | exact Calls.quiet_of (HsE.out _) | exact quiet_add (HsE.out _) | exact quiet_add' (HsE.out _)))
      have b1 : (p : Int) ≤ (b.size : Int) - (r : Int) := by omega
      have b2 : (b.size : Int) - (r : Int) ≤ (b.size : Int) := by omega
      go_wp2_with fail
      go_ret2
      refine ⟨_, 1, rfl, EdsV.block (g := w.heap.size) (cs := _) (heap_alloc_new (w.drewN (n + nq)) _) rfl, fun ad h => by cases h; exact Nat.le_refl _, (below_drewN (Below.refl _ _) _).alloc (by simp) _⟩
end Go.Proofs.Ytmdgclcakogggaa
