/-
  RelexCommons: Common returns how many tokens two lists have in common at both ends, or the error. No condition: every input.; Layer 4's laws read two tables, token's words and signs: what a world that has them gives, and a world that has them.
-/
import Derived.Test.YtkdnacniligjjaaDoorRelexCommonsp9
import Derived.Test.YtkdnacniligjjaaDoorRelexCommonsp10
import Derived.Test.YtkdnacniligjjaaDoorRelexCommonsp30
import Derived.Test.YtkdnacniligjjaaDoorRelexCommonsp31
namespace Go.Proofs.YtkdnacniligjjaaDoor.lawRelexCommons
set_option linter.unusedVariables false
set_option linter.unusedSimpArgs false
open Go.ChangeShapes Go.WideShapes Go.RowKit
open Go.ChangeMaps (open_string shut_string)

theorem Common_no (c1 c2 : Nat) (A1 A2 : Option Addr) (l1 l2 : List Tok) (w : World) (h : 20000 < l1.length ∨ 20000 < l2.length) :
    Calls Tryd.prog 34 #[.slice A1 l1.length c1, .slice A2 l2.length c2] w fun e w' => e = .returned (.tuple #[.int .i64 0, .int .i64 0, .int .i64 3]) ∧ w' = w := by
  by_cases h1 : 20000 < l1.length
  · have q1 : decide ((20000 : Int) < (l1.length : Int)) = true := by simp; omega
    go_enter Tryd.func34, Tryd.ntmps34
    go_wp2_with fail
    go_ret3
    exact ⟨rfl, rfl⟩
  · have q1 : decide ((20000 : Int) < (l1.length : Int)) = false := by simp; omega
    have q2 : decide ((20000 : Int) < (l2.length : Int)) = true := by simp; omega
    go_enter Tryd.func34, Tryd.ntmps34
    go_wp2_with fail
    go_ret3
    exact ⟨rfl, rfl⟩

set_option maxRecDepth 100000 in
set_option maxHeartbeats 2000000 in
theorem walk (A0 : Option Addr) (c0 : Nat) (l0 : List Tok) (hl0 : l0.length ≤ maxLen) (hs0 : ∀ p ∈ l0, p.2.size ≤ maxLen) (B0 : Option Addr) (d0 : Nat) (m0 : List Tok) (hm0 : m0.length ≤ maxLen) (ht0 : ∀ p ∈ m0, p.2.size ≤ maxLen) (w : World) (hT : Tabs w) (hE0 : TksV w A0 l0) (hF0 : TksV w B0 m0) :
    Calls Tryd.prog 5 #[.slice A0 l0.length c0, .slice B0 m0.length d0] w fun e w' => e = .returned (.bool true) ∧ Below w.heap.size w w' := by
  have hcut1 := RCut_own c0 A0 l0 w hl0 hs0 hE0
  have hcut2 := fun W (hW : TksV W B0 m0) => RCut_own d0 B0 m0 W hm0 ht0 hW
  have k1 := cutT_length l0
  have k2 := cutT_length m0
  generalize cutT l0 = L1 at hcut1 k1
  generalize cutT m0 = L2 at hcut2 k2
  have Hcut1 := Lib.hid hcut1
  have Hcut2 := Lib.hid hcut2
  have HE2 := Lib.hid hF0
  have HT := Lib.hid hT
  clear hcut1 hcut2 hE0 hF0 hl0 hs0 hm0 ht0 hT
  by_cases h1 : 20000 < L1.length
  · have q1 : decide ((20000 : Int) < (L1.length : Int)) = true := by simp; omega
    have HN : Hid (20000 < L1.length ∨ 20000 < L2.length) := Lib.hid (.inl h1)
    clear h1 k1 k2
    go_enter Tryd.func5, Tryd.ntmps5
    go_wp2_with fail
    refine Hcut1.out.mono ?_
    rintro e w1 ⟨v1, rfl, ho1, hb1⟩
    obtain ⟨A1, c1, rfl, hE1, _⟩ := TksV.of_own ho1
    clear ho1
    go_wp2_with fail
    refine (Hcut2.out w1 (HE2.out.below hb1)).mono ?_
    rintro e w2 ⟨v2, rfl, ho2, hb2⟩
    obtain ⟨A2, c2, rfl, hE2, _⟩ := TksV.of_own ho2
    have HB := Lib.hid (hb1.trans (hb2.mono hb1.size))
    have HF1 := Lib.hid (hE1.below hb2)
    have HF2 := Lib.hid hE2
    clear ho2 hE1 hE2 hb1 hb2
    go_wp2_with fail
    refine (Common_no c1 c2 A1 A2 L1 L2 w2 HN.out).mono ?_
    rintro e w3 ⟨rfl, hw3⟩
    subst hw3
    go_wp2_with fail
    refine (alive4_any w3 (HT.out.below HB.out)).mono ?_
    rintro e w9 ⟨rfl, hb9⟩
    go_wp2_with fail
    go_ret
    exact ⟨rfl, HB.out.trans (hb9.mono HB.out.size)⟩
  · have q1 : decide ((20000 : Int) < (L1.length : Int)) = false := by simp; omega
    by_cases h2 : 20000 < L2.length
    · have q2 : decide ((20000 : Int) < (L2.length : Int)) = true := by simp; omega
      have HN : Hid (20000 < L1.length ∨ 20000 < L2.length) := Lib.hid (.inr h2)
      clear h1 h2 k1 k2
      go_enter Tryd.func5, Tryd.ntmps5
      go_wp2_with fail
      refine Hcut1.out.mono ?_
      rintro e w1 ⟨v1, rfl, ho1, hb1⟩
      obtain ⟨A1, c1, rfl, hE1, _⟩ := TksV.of_own ho1
      clear ho1
      go_wp2_with fail
      refine (Hcut2.out w1 (HE2.out.below hb1)).mono ?_
      rintro e w2 ⟨v2, rfl, ho2, hb2⟩
      obtain ⟨A2, c2, rfl, hE2, _⟩ := TksV.of_own ho2
      have HB := Lib.hid (hb1.trans (hb2.mono hb1.size))
      have HF1 := Lib.hid (hE1.below hb2)
      have HF2 := Lib.hid hE2
      clear ho2 hE1 hE2 hb1 hb2
      go_wp2_with fail
      refine (Common_no c1 c2 A1 A2 L1 L2 w2 HN.out).mono ?_
      rintro e w3 ⟨rfl, hw3⟩
      subst hw3
      go_wp2_with fail
      refine (alive4_any w3 (HT.out.below HB.out)).mono ?_
      rintro e w9 ⟨rfl, hb9⟩
      go_wp2_with fail
      go_ret
      exact ⟨rfl, HB.out.trans (hb9.mono HB.out.size)⟩
    · have q2 : decide ((20000 : Int) < (L2.length : Int)) = false := by simp; omega
      have qa : ((comF L1 L2 : Int) == (comF L1 L2 : Int)) = true := by simp
      have qb : ((comT L1 L2 : Int) == (comT L1 L2 : Int)) = true := by simp
      go_enter Tryd.func5, Tryd.ntmps5
      go_wp2_with fail
      refine Hcut1.out.mono ?_
      rintro e w1 ⟨v1, rfl, ho1, hb1⟩
      obtain ⟨A1, c1, rfl, hE1, _⟩ := TksV.of_own ho1
      clear ho1
      go_wp2_with fail
      refine (Hcut2.out w1 (HE2.out.below hb1)).mono ?_
      rintro e w2 ⟨v2, rfl, ho2, hb2⟩
      obtain ⟨A2, c2, rfl, hE2, _⟩ := TksV.of_own ho2
      have HB := Lib.hid (hb1.trans (hb2.mono hb1.size))
      have HF1 := Lib.hid (hE1.below hb2)
      have HF2 := Lib.hid hE2
      clear ho2 hE1 hE2 hb1 hb2
      go_wp2_with fail
      refine (Common_ok c1 c2 A1 A2 L1 L2 w2 (by omega) (by omega) HF1.out HF2.out).mono ?_
      rintro e w3 ⟨rfl, n3, hw3⟩
      have hB3 : Below w.heap.size w w3 := by subst hw3; exact below_drewN HB.out _
      have hF1 : TksV w3 A1 L1 := by subst hw3; exact HF1.out.below (below_drewN (Below.refl _ _) _)
      have hF2 : TksV w3 A2 L2 := by subst hw3; exact HF2.out.below (below_drewN (Below.refl _ _) _)
      have HB3 := Lib.hid hB3
      clear hw3 hB3
      go_wp2_with fail
      refine (RCommon_any c1 c2 A1 A2 L1 L2 w3 (by omega) (by omega) hF1 hF2).mono ?_
      rintro e w4 ⟨rfl, n4, hw4⟩
      have hB4 : Below w.heap.size w w4 := by subst hw4; exact below_drewN HB3.out _
      have HB4 := Lib.hid hB4
      clear hw4 hB4 hF1 hF2
      go_wp2_with fail
      refine (alive4_any w4 (HT.out.below HB4.out)).mono ?_
      rintro e w9 ⟨rfl, hb9⟩
      go_wp2_with fail
      go_ret
      exact ⟨rfl, HB4.out.trans (hb9.mono HB4.out.size)⟩
end Go.Proofs.YtkdnacniligjjaaDoor.lawRelexCommons

namespace Go.Proofs.YtkdnacniligjjaaDoor
set_option linter.unusedVariables false
set_option linter.unusedSimpArgs false
open Go.RowKit

noncomputable abbrev laidListR : List (String × DataW Unit) := [("marginalia/token.words", Rows.laid_marginalia_token_words), ("marginalia/token.signs", Rows.laid_marginalia_token_signs)]
set_option maxRecDepth 100000 in
theorem tabs_of_laidR {W : World} (h : laidMet Tryd.prog laidListR W) : Tabs W := by
  have h5 := Lib.laidMet.reads h (n := "marginalia/token.words") (.head _)
  have h6 := Lib.laidMet.reads h (n := "marginalia/token.signs") (.tail _ (.head _))
  rw [words_eq] at h5
  rw [signs_eq] at h6
  exact ⟨fun k hk => strs_of_reads (n := 12) (by kernel_rfl) (by kernel_rfl) Tryd.underlying150 (by kernel_rfl) h5 k hk, fun k hk => strs_of_reads (n := 22) (by kernel_rfl) (by kernel_rfl) Tryd.underlying137 (by kernel_rfl) h6 k hk⟩
noncomputable def laidWorldR (os : Os) : World :=
  let w0 := World.holding Tryd.prog os ⟨#[], #[], []⟩
  let put (h : Array Obj) (g : Nat) (cs : Array Value) : Array Obj := h.modify g fun
    | .cells _ t frozen => .cells cs t frozen
    | o => o
  let h1 := put w0.heap 2 (aggV Rows.laid_marginalia_token_words)
  let h2 := put h1 0 (aggV Rows.laid_marginalia_token_signs)
  { w0 with heap := h2 }
set_option maxRecDepth 100000 in
theorem laidWorldR_met (os : Os) (args : Array Value) : laidMet Tryd.prog laidListR ((laidWorldR os).forCall (fun _ _ => 0) ⟨#[], args, []⟩).memory :=
  (LaidIn.of_run [2, 0] 8 (by kernel_rfl) (by kernel_rfl) (by kernel_rfl) (by kernel_rfl)).met
end Go.Proofs.YtkdnacniligjjaaDoor
