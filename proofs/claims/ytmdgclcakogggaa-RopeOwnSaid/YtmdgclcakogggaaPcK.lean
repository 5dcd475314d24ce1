/-
  The contract of join: a tree of both texts.
-/
import Derived.Test.YtmdgclcakogggaaPcB2
namespace Go.Proofs.Ytmdgclcakogggaa
set_option linter.unusedVariables false
set_option linter.unusedSimpArgs false
open Go.RowKit

theorem balL_same (ll lr r : Pc) : (balL ll lr r).text = ll.text ++ lr.text ++ r.text ∧ (balL ll lr r).leaves = ll.leaves + lr.leaves + r.leaves ∧ (ll.ok → lr.ok → r.ok → (balL ll lr r).ok) := by
  unfold balL
  split
  · simp only [Pc.text, Pc.leaves, Pc.ok, List.append_assoc]; exact ⟨trivial, by first | trivial | omega, fun a b c => ⟨a, b, c⟩⟩
  · split
    · simp only [Pc.text, Pc.leaves, Pc.ok, List.append_assoc]; refine ⟨trivial, ?_, fun a b c => ⟨⟨a, b.1⟩, b.2, c⟩⟩; first | trivial | omega
    · simp only [Pc.text, Pc.leaves, Pc.ok, List.append_assoc]; refine ⟨trivial, ?_, fun a b c => ⟨⟨a, b⟩, c⟩⟩; first | trivial | omega
theorem balR_same (l rl rr : Pc) : (balR l rl rr).text = l.text ++ rl.text ++ rr.text ∧ (balR l rl rr).leaves = l.leaves + rl.leaves + rr.leaves ∧ (l.ok → rl.ok → rr.ok → (balR l rl rr).ok) := by
  unfold balR
  split
  · simp only [Pc.text, Pc.leaves, Pc.ok, List.append_assoc]; refine ⟨trivial, ?_, fun a b c => ⟨⟨a, b⟩, c⟩⟩; first | trivial | omega
  · split
    · simp only [Pc.text, Pc.leaves, Pc.ok, List.append_assoc]; refine ⟨trivial, ?_, fun a b c => ⟨⟨a, b.1⟩, b.2, c⟩⟩; first | trivial | omega
    · simp only [Pc.text, Pc.leaves, Pc.ok, List.append_assoc]; refine ⟨trivial, ?_, fun a b c => ⟨a, b, c⟩⟩; first | trivial | omega
theorem balP_same (l r : Pc) : (balP l r).text = l.text ++ r.text ∧ (balP l r).leaves = l.leaves + r.leaves ∧ (l.ok → r.ok → (balP l r).ok) := by
  unfold balP
  split
  · split
    · rename_i a b _; have h := balL_same a b r; exact ⟨h.1, h.2.1, fun a c => h.2.2 a.1 a.2 c⟩
    · exact ⟨rfl, rfl, fun a b => ⟨a, b⟩⟩
  · split
    · split
      · rename_i a b _ _; have h := balR_same l a b; exact ⟨by rw [h.1]; simp [Pc.text], by rw [h.2.1]; simp only [Pc.leaves]; omega, fun a c => h.2.2 a c.1 c.2⟩
      · exact ⟨rfl, rfl, fun a b => ⟨a, b⟩⟩
    · exact ⟨rfl, rfl, fun a b => ⟨a, b⟩⟩

/-- a tree of both texts comes back -/
def Joined (w : World) (l r : Pc) (e : Ending) (w' : World) : Prop := ∃ t, GivesPc w t e w' ∧ t.good ∧ t.text = l.text ++ r.text ∧ t.leaves = l.leaves + r.leaves
theorem size_of_text {t : Pc} {x : List UInt8} (h : t.text = x) : t.size = x.length := by rw [← Pc.size_text, h]
theorem good_of {t : Pc} (h : t.ok) : t.good := .inr h
theorem joined_size {t l r : Pc} (h : t.text = l.text ++ r.text) : t.size = l.size + r.size := by rw [size_of_text h, List.length_append, Pc.size_text, Pc.size_text]
theorem joined_ok {t l r : Pc} (h : t.text = l.text ++ r.text) (hg : t.good) (hp : 0 < r.size) : t.ok := by
  rcases hg with rfl | hg
  · have := joined_size h; simp only [Pc.size] at this; omega
  · exact hg

set_option maxRecDepth 100000 in
set_option maxHeartbeats 2000000 in
theorem join_any : ∀ (n : Nat) (l r : Pc) (ol or : Option Addr) (w : World), l.size + r.size < n → l.good → r.good → l.size + r.size ≤ 60000 → PcAt w w.heap.size (.pointer ol) l → PcAt w w.heap.size (.pointer or) r →
    Calls Try.prog 28 #[.pointer ol, .pointer or] w (Joined w l r) := by
  intro n
  induction n with
  | zero => intro l r ol or w h; omega
  | succ n ih =>
  intro l r ol or w hn hol hor hsz hl hr
  rcases hol with rfl | hol
  · have e : Value.pointer ol = .pointer none := hl
    obtain rfl : ol = none := by injection e
    have HR := Lib.hid hr
    clear e hl hr
    go_enter Try.func28, Try.ntmps28
    go_wp2_with fail
    go_ret
    exact ⟨r, ⟨or, rfl, HR.out, Below.refl _ _⟩, hor, by simp [Pc.text], by simp [Pc.leaves]⟩
  obtain ⟨bl, e1, _, hbl, _, _, _, l6⟩ := hl.totals (by rintro rfl; exact hol)
  obtain rfl : ol = some ⟨bl, 0, none⟩ := by injection e1
  rcases hor with rfl | hor
  · have e : Value.pointer or = .pointer none := hr
    obtain rfl : or = none := by injection e
    have HL := Lib.hid hl
    clear e hl hr
    go_enter Try.func28, Try.ntmps28
    go_wp2_with fail
    go_ret
    exact ⟨l, ⟨_, rfl, HL.out, Below.refl _ _⟩, .inr hol, by simp [Pc.text], by simp [Pc.leaves]⟩
  obtain ⟨br, e2, _, hbr, _, _, _, r6⟩ := hr.totals (by rintro rfl; exact hor)
  obtain rfl : or = some ⟨br, 0, none⟩ := by injection e2
  clear e1 e2
  have hlh := hol.height_le
  have hrh := hor.height_le
  have hlp := hol.pos
  have hrp := hor.pos
  have s1 : IntKind.i64.wrap ((r.height : Int) + 1) = (r.height : Int) + 1 := IntWalk.i64_in _ (by omega)
  have s2 : IntKind.i64.wrap ((l.height : Int) + 1) = (l.height : Int) + 1 := IntWalk.i64_in _ (by omega)
  by_cases h1 : r.height + 1 < l.height
  · obtain ⟨ll, lr, rfl⟩ : ∃ a b, l = .node a b := by
      cases l with
      | nil => exact absurd hol id
      | leaf s => exact absurd h1 (by simp only [Pc.height]; omega)
      | node a b => exact ⟨a, b, rfl⟩
    have q1 : decide ((r.height : Int) + 1 < ((Pc.node ll lr).height : Int)) = true := by simp; omega
    obtain ⟨bl', vll, vlr, e3, _, hhl, hll, hlr, holl, holr⟩ := hl
    obtain rfl : bl = bl' := by injection e3 with e3; injection e3 with e3; injection e3
    obtain ⟨bll, rfl, _, hbll, _, _, _, ll6⟩ := hll.totals (by rintro rfl; exact holl)
    obtain ⟨blr, rfl, _, hblr, _, _, _, lr6⟩ := hlr.totals (by rintro rfl; exact holr)
    have k1 : w.cell? ⟨bl, 1, none⟩ = some (.pointer (some ⟨bll, 0, none⟩)) := cell_of hhl 1
    have k2 : w.cell? ⟨bl, 2, none⟩ = some (.pointer (some ⟨blr, 0, none⟩)) := cell_of hhl 2
    have hllp := holl.pos
    have HLL := Lib.hid hll
    have HLR := Lib.hid hlr
    have HR := Lib.hid hr
    clear e3 hhl hll hlr hr h1 ll6 lr6
    go_enter Try.func28, Try.ntmps28
    go_wp2_with fail
    go_quiet (fail)
    go_wp2_with fail
    go_region_held3 (fun w' => Below w.heap.size w w' ∧ w'.cell? ⟨bl, 1, none⟩ = some (.pointer (some ⟨bll, 0, none⟩)) ∧ w'.cell? ⟨bl, 2, none⟩ = some (.pointer (some ⟨blr, 0, none⟩)))
      (exact two_kept (by repeat (first | with_reducible exact Below.refl _ _ | with_reducible assumption | with_reducible refine Below.drew ?_ | with_reducible refine below_drewN ?_ _ | with_reducible refine below_call ?_ (Nat.le_refl _) hbC | with_reducible refine below_call ?_ (Nat.le_refl _) hbA)) hbl k1 k2)
      ((first
       | (go_at_call 28
          with_reducible refine (ih lr r (some ⟨blr, 0, none⟩) (some ⟨br, 0, none⟩) _ ?_ (good_of holr) (good_of hor) ?_ ?_ ?_).mono ?_
          · simp only [Pc.size] at hn ⊢; omega
          · simp only [Pc.size] at hsz ⊢; omega
          · exact HLR.out.belowTop (by repeat (first | with_reducible exact Below.refl _ _ | with_reducible assumption | with_reducible refine Below.drew ?_ | with_reducible refine below_drewN ?_ _))
          · exact HR.out.belowTop (by repeat (first | with_reducible exact Below.refl _ _ | with_reducible assumption | with_reducible refine Below.drew ?_ | with_reducible refine below_drewN ?_ _))
          rintro e wA ⟨tA, ⟨oA, rfl, hpA, hbA⟩, hgA, htA, hlA⟩
          have hzA := joined_size htA
          have hokA := joined_ok htA hgA hrp)
       | (go_at_call 49
          with_reducible refine (balance_any ll tA (.pointer (some ⟨bll, 0, none⟩)) (.pointer oA) _ holl hokA ?_ ?_ ?_).mono ?_
          · simp only [Pc.size] at hsz ⊢; omega
          · exact HLL.out.belowTop (by repeat (first | with_reducible exact Below.refl _ _ | with_reducible assumption | with_reducible refine Below.drew ?_ | with_reducible refine below_drewN ?_ _ | with_reducible refine below_call ?_ (Nat.le_refl _) hbA))
          · exact hpA.belowTop (by repeat (first | with_reducible exact Below.refl _ _ | with_reducible assumption | with_reducible refine Below.drew ?_ | with_reducible refine below_drewN ?_ _))
          rintro e wC ⟨oC, rfl, hpC, hbC⟩)))
    all_goals
      go_wp2_with fail
      go_ret
      have hbs := balP_same ll tA
      exact ⟨balP ll tA, ⟨oC, rfl, hpC, (by repeat (first | with_reducible exact Below.refl _ _ | with_reducible assumption | with_reducible refine Below.drew ?_ | with_reducible refine below_drewN ?_ _ | with_reducible refine below_call ?_ (Nat.le_refl _) hbC | with_reducible refine below_call ?_ (Nat.le_refl _) hbA))⟩, .inr (hbs.2.2 holl hokA), by rw [hbs.1, htA]; simp [Pc.text], by rw [hbs.2.1, hlA]; simp only [Pc.leaves]; omega⟩
  have q0 : decide ((r.height : Int) + 1 < (l.height : Int)) = false := by simp; omega
  by_cases h2 : l.height + 1 < r.height
  · obtain ⟨rl, rr, rfl⟩ : ∃ a b, r = .node a b := by
      cases r with
      | nil => exact absurd hor id
      | leaf s => exact absurd h2 (by simp only [Pc.height]; omega)
      | node a b => exact ⟨a, b, rfl⟩
    have q1 : decide ((l.height : Int) + 1 < ((Pc.node rl rr).height : Int)) = true := by simp; omega
    obtain ⟨br', vrl, vrr, e3, _, hhr, hrl, hrr, horl, horr⟩ := hr
    obtain rfl : br = br' := by injection e3 with e3; injection e3 with e3; injection e3
    obtain ⟨brl, rfl, _, hbrl, _, _, _, rl6⟩ := hrl.totals (by rintro rfl; exact horl)
    obtain ⟨brr, rfl, _, hbrr, _, _, _, rr6⟩ := hrr.totals (by rintro rfl; exact horr)
    have k1 : w.cell? ⟨br, 1, none⟩ = some (.pointer (some ⟨brl, 0, none⟩)) := cell_of hhr 1
    have k2 : w.cell? ⟨br, 2, none⟩ = some (.pointer (some ⟨brr, 0, none⟩)) := cell_of hhr 2
    have hrlp := horl.pos
    have hrrp := horr.pos
    have HRL := Lib.hid hrl
    have HRR := Lib.hid hrr
    have HL := Lib.hid hl
    clear e3 hhr hrl hrr hl h1 h2 rl6 rr6
    go_enter Try.func28, Try.ntmps28
    go_wp2_with fail
    go_quiet (fail)
    go_wp2_with fail
    go_quiet (fail)
    go_wp2_with fail
    go_region_held3 (fun w' => Below w.heap.size w w' ∧ w'.cell? ⟨br, 1, none⟩ = some (.pointer (some ⟨brl, 0, none⟩)) ∧ w'.cell? ⟨br, 2, none⟩ = some (.pointer (some ⟨brr, 0, none⟩)))
      (exact two_kept (by repeat (first | with_reducible exact Below.refl _ _ | with_reducible assumption | with_reducible refine Below.drew ?_ | with_reducible refine below_drewN ?_ _ | with_reducible refine below_call ?_ (Nat.le_refl _) hbC | with_reducible refine below_call ?_ (Nat.le_refl _) hbA)) hbr k1 k2)
      ((first
       | (go_at_call 28
          with_reducible refine (ih l rl (some ⟨bl, 0, none⟩) (some ⟨brl, 0, none⟩) _ ?_ (good_of hol) (good_of horl) ?_ ?_ ?_).mono ?_
          · simp only [Pc.size] at hn ⊢; omega
          · simp only [Pc.size] at hsz ⊢; omega
          · exact HL.out.belowTop (by repeat (first | with_reducible exact Below.refl _ _ | with_reducible assumption | with_reducible refine Below.drew ?_ | with_reducible refine below_drewN ?_ _))
          · exact HRL.out.belowTop (by repeat (first | with_reducible exact Below.refl _ _ | with_reducible assumption | with_reducible refine Below.drew ?_ | with_reducible refine below_drewN ?_ _))
          rintro e wA ⟨tA, ⟨oA, rfl, hpA, hbA⟩, hgA, htA, hlA⟩
          have hzA := joined_size htA
          have hokA := joined_ok htA hgA hrlp)
       | (go_at_call 49
          with_reducible refine (balance_any tA rr (.pointer oA) (.pointer (some ⟨brr, 0, none⟩)) _ hokA horr ?_ ?_ ?_).mono ?_
          · simp only [Pc.size] at hsz ⊢; omega
          · exact hpA.belowTop (by repeat (first | with_reducible exact Below.refl _ _ | with_reducible assumption | with_reducible refine Below.drew ?_ | with_reducible refine below_drewN ?_ _))
          · exact HRR.out.belowTop (by repeat (first | with_reducible exact Below.refl _ _ | with_reducible assumption | with_reducible refine Below.drew ?_ | with_reducible refine below_drewN ?_ _ | with_reducible refine below_call ?_ (Nat.le_refl _) hbA))
          rintro e wC ⟨oC, rfl, hpC, hbC⟩)))
    all_goals
      go_wp2_with fail
      go_ret
      have hbs := balP_same tA rr
      exact ⟨balP tA rr, ⟨oC, rfl, hpC, (by repeat (first | with_reducible exact Below.refl _ _ | with_reducible assumption | with_reducible refine Below.drew ?_ | with_reducible refine below_drewN ?_ _ | with_reducible refine below_call ?_ (Nat.le_refl _) hbC | with_reducible refine below_call ?_ (Nat.le_refl _) hbA))⟩, .inr (hbs.2.2 hokA horr), by rw [hbs.1, htA]; simp [Pc.text], by rw [hbs.2.1, hlA]; simp only [Pc.leaves]; omega⟩
  have q1 : decide ((l.height : Int) + 1 < (r.height : Int)) = false := by simp; omega
  have HL := Lib.hid hl
  have HR := Lib.hid hr
  clear hl hr h1 h2
  go_enter Try.func28, Try.ntmps28
  go_wp2_with fail
  go_quiet (fail)
  go_wp2_with fail
  go_quiet (fail)
  go_wp2_with fail
  refine (pair_any l r _ _ _ hol hor hsz (HL.out.drewN _) (HR.out.drewN _)).mono ?_
  rintro e wC ⟨oC, rfl, hpC, hbC⟩
  go_wp2_with fail
  go_ret
  exact ⟨.node l r, ⟨oC, rfl, hpC, (by repeat (first | with_reducible exact Below.refl _ _ | with_reducible assumption | with_reducible refine Below.drew ?_ | with_reducible refine below_drewN ?_ _ | with_reducible refine below_call ?_ (Nat.le_refl _) hbC))⟩, .inr ⟨hol, hor⟩, by simp [Pc.text], by simp only [Pc.leaves]⟩
end Go.Proofs.Ytmdgclcakogggaa
