/-
  Line of ropes: feed.
-/
import Derived.Test.YtmbpjjehnfjdiaaDoorLine
import Derived.BigQuiet
import Derived.Deep.QuietTactic
namespace Go.Proofs.YtmbpjjehnfjdiaaDoor
set_option linter.unusedVariables false
set_option linter.unusedSimpArgs false
open Go.RowKit

set_option maxRecDepth 100000 in
set_option maxHeartbeats 2000000 in
theorem feed_any : ∀ (t : Pc) (v : Value) (n : Nat) (w : World), t.size ≤ 60000 → t.ok → n < t.feeds → PcAt w w.heap.size v t →
    Calls Tryd.prog 47 #[v, .int .i64 n] w fun e w' => e = .returned (.int .i64 (feedAt t.text n : Int)) ∧ ∃ m, w' = w.drewN m := by
  intro t
  induction t with
  | nil => intro v n w hsz hok hn hP; exact hok.elim
  | leaf s =>
    intro v n w hsz hok hn hP
    have hsz2 : s.size ≤ 60000 := hsz
    have hn2 : n ≤ 60000 := by have := (Pc.leaf s).feeds_le; have : (Pc.leaf s).size = s.size := rfl; omega
    have hP0 := hP
    obtain ⟨g, rfl, hg, hh⟩ := hP
    have c0 : w.cell? ⟨g, 0, none⟩ = some (.string s) := cell_of hh 0
    clear hh
    go_enter Tryd.func47, Tryd.ntmps47
    go_wp2_with fail
    refine (isLeaf_leaf s _ w hP0).mono ?_
    rintro e w2 ⟨rfl, rfl⟩
    go_wp2_with fail
    refine (feedOf_any s n w hsz2 hn2).mono ?_
    rintro e w2 ⟨rfl, rfl⟩
    go_wp2_with fail
    go_ret
    exact ⟨rfl, 0, rfl⟩
  | node l r ihl ihr =>
    intro v n w hsz hok hn hP
    have hP0 := hP
    obtain ⟨g, vl, vr, rfl, hg, hh, hl, hr, hol, hor⟩ := hP
    have hsz2 : l.size + r.size ≤ 60000 := hsz
    have hn2 : n < l.feeds + r.feeds := hn
    have hfl := l.feeds_le
    have hfr := r.feeds_le
    obtain ⟨bl, rfl, _, hbl, l3, l4, l5, l6⟩ := hl.totals (by rintro rfl; exact hol)
    have c1 : w.cell? ⟨g, 1, none⟩ = some (.pointer (some ⟨bl, 0, none⟩)) := cell_of hh 1
    have c2 : w.cell? ⟨g, 2, none⟩ = some vr := cell_of hh 2
    obtain ⟨br, rfl, _, hbr, r3, r4, r5, r6⟩ := hr.totals (by rintro rfl; exact hor)
    have HL := Lib.hid hl
    have HR := Lib.hid hr
    have IHL := Lib.hid ihl
    have IHR := Lib.hid ihr
    clear hl hr ihl ihr hh
    by_cases hc : n < l.feeds
    · have hx := Lib.hid (feedAt_left l.text r.text n (by rw [l.feeds_text]; exact hc))
      go_enter Tryd.func47, Tryd.ntmps47
      go_wp2_with fail
      refine (isLeaf_node l r _ w hP0).mono ?_
      rintro e w2 ⟨rfl, rfl⟩
      go_wp2_with fail
      refine (IHL.out _ n w (by omega) hol hc HL.out).mono ?_
      rintro e w2 ⟨rfl, m, rfl⟩
      go_wp2_with fail
      go_ret
      exact ⟨ret_int (by show (feedAt l.text n : Int) = (feedAt (l.text ++ r.text) n : Int); rw [hx.out]), m, rfl⟩
    · have hx := Lib.hid (feedAt_right l.text r.text n (by rw [l.feeds_text]; omega))
      have hle := feedAt_le r.text (n - l.feeds)
      rw [r.size_text] at hle
      have s1 : IntKind.i64.wrap ((n : Int) - (l.feeds : Int)) = ((n - l.feeds : Nat) : Int) := by rw [Int.ofNat_sub (by omega)]; exact IntWalk.i64_in _ (by omega)
      go_enter Tryd.func47, Tryd.ntmps47
      go_wp2_with fail
      refine (isLeaf_node l r _ w hP0).mono ?_
      rintro e w2 ⟨rfl, rfl⟩
      go_wp2_with fail
      go_quiet (first | (go_at_call 47; refine Calls.quiet_of (IHR.out _ (n - l.feeds) _ (by omega) hor (by omega) (HR.out.belowTop (below_drewN (Below.refl _ _) _)))))
      go_wp2_with fail
      go_ret
      refine ⟨ret_int ?_, nq, rfl⟩
      show _ = (feedAt (l.text ++ r.text) n : Int)
      rw [hx.out, l.size_text, l.feeds_text]
      omega
end Go.Proofs.YtmbpjjehnfjdiaaDoor
