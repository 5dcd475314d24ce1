/-
  The law's own closed example: alive.
-/
import Derived.Test.YtmdgclcakogggaaInv
import Derived.Test.YtmdgclcakogggaaRope
import Derived.Test.YtmdgclcakogggaaMove3
namespace Go.Proofs.Ytmdgclcakogggaa
set_option linter.unusedVariables false
set_option linter.unusedSimpArgs false
open Go.RowKit

def bs (l : List UInt8) : ByteArray := ⟨l.toArray⟩
def smp : List Ed := [⟨1, 2, bs [120]⟩, ⟨2, 2, bs [121, 122]⟩]
theorem sample_any (w : World) :
    Calls Try.prog 20 #[] w fun e w' => (∃ A, e = .returned (.slice A 2 2) ∧ EdsV w' A smp) ∧ Below w.heap.size w w' := by
  go_enter Try.func20, Try.ntmps20
  go_wp2
  go_ret
  exact ⟨⟨_, rfl, EdsV.block (heap_alloc_new w _) rfl⟩, (Below.refl _ _).alloc (Nat.le_refl _) _⟩

theorem al1 : applyR (bs [97, 98, 99, 100]) smp = bs [97, 120, 121, 122, 99, 100] := by decide +kernel
theorem al2 : checkE ((bs [97, 98, 99, 100]).size : Int) smp = 0 := by decide +kernel
theorem al3 : invertR (bs [97, 98, 99, 100]) smp = [⟨1, 2, bs [98]⟩, ⟨2, 4, bs []⟩] := by decide +kernel
theorem al4 : moveRes [⟨1, 3, bs [120]⟩] 2 false = 2 := by decide +kernel
theorem al5 : moveErr [⟨1, 3, bs [120]⟩] 2 = 0 := by decide +kernel
theorem al6 : diffR (bs [97, 98, 99]) (bs [97, 98, 98, 99]) = [⟨2, 2, bs [98]⟩] := by decide +kernel
theorem al7 : diffErr (bs [97, 98, 99]) (bs [97, 98, 98, 99]) = 0 := by decide +kernel
theorem al8 : (pcOf (bs [97, 98, 10, 99])).feeds = 1 := by decide +kernel
theorem al9 : mkB (pcOf (bs [97, 98, 10, 99])).text = bs [97, 98, 10, 99] := by rw [pcOf_text]; exact mkB_of _
theorem eqStr1 : (bs [97, 120, 121, 122, 99, 100]).toList = [97, 120, 121, 122, 99, 100] := by decide +kernel
theorem eqStr2 : (bs [97, 98, 10, 99]).toList = [97, 98, 10, 99] := by decide +kernel
theorem smp_small : Small smp := ⟨by decide, by decide⟩

set_option maxRecDepth 100000 in
set_option maxHeartbeats 4000000 in
theorem alive_any (w : World) :
    Calls Try.prog 9 #[] w fun e w' => e = .returned (.bool true) ∧ Below w.heap.size w w' := by
  go_enter Try.func9, Try.ntmps9
  go_wp2_with fail
  refine (sample_any w).mono ?_
  rintro e w1 ⟨⟨A1, rfl, hE1⟩, hb1⟩
  go_wp2_with fail
  refine (Apply_any (bs [97, 98, 99, 100]) 2 A1 smp w1 smp_small (by decide) hE1).mono ?_
  rintro e w2 ⟨rfl, hb2⟩
  rw [al1, al2]
  have hB2 := hb1.trans (hb2.mono hb1.size)
  clear hE1
  go_wp2_with fail
  refine (sample_any w2).mono ?_
  rintro e w3 ⟨⟨A3, rfl, hE3⟩, hb3⟩
  have hB3 := hB2.trans (hb3.mono hB2.size)
  go_wp2_with fail
  refine (Invert_any (bs [97, 98, 99, 100]) 2 A3 smp w3 smp_small (by decide) hE3).mono ?_
  rw [al2, al3]
  rintro e w4 ⟨A4, c4, rfl, hE4, _, hb4⟩
  have hB4 := hB3.trans (hb4.mono hB3.size)
  clear hE3
  go_wp2_with fail
  have hE5 : EdsV (w4.alloc (.cells #[.int .i64 1, .int .i64 3, .string (bs [120])] 35)) (some ⟨w4.heap.size, 0, none⟩) [⟨1, 3, bs [120]⟩] := EdsV.block (heap_alloc_new w4 _) rfl
  have hB5 := hB4.alloc hB4.size (.cells #[.int .i64 1, .int .i64 3, .string (bs [120])] 35)
  have hE4' := hE4.below ((Below.refl w4.heap.size w4).alloc (Nat.le_refl _) (.cells #[.int .i64 1, .int .i64 3, .string (bs [120])] 35))
  refine (Move_any 1 _ [⟨1, 3, bs [120]⟩] 2 false _ ⟨by decide, by decide⟩ hE5).mono ?_
  rintro e w6 ⟨rfl, hb6⟩
  rw [al4, al5]
  have hB6 := hB5.trans (hb6.mono hB5.size)
  have hE6 := hE4'.below hb6
  clear hE4 hE4' hE5
  go_wp2_with fail
  refine (Diff_any (bs [97, 98, 99]) (bs [97, 98, 98, 99]) w6 (by decide) (by decide)).mono ?_
  rw [al6, al7]
  rintro e w7 ⟨A7, c7, rfl, hE7, _, hb7⟩
  have hB7 := hB6.trans (hb7.mono hB6.size)
  have hE8 := hE6.below hb7
  clear hE6
  go_wp2_with fail
  refine (New_ok (bs [97, 98, 10, 99]) w7 (by decide)).mono ?_
  rintro e w8 ⟨v8, rfl, hR, hb8⟩
  have hB8 := hB7.trans (hb8.mono hB7.size)
  have hE9 := hE8.below hb8
  have hE10 := hE7.below hb8
  clear hE7 hE8
  obtain ⟨r8, vr8, rfl, hR1, hR2, hR3⟩ := id hR
  clear hR1 hR2 hR3
  have q1 := eqStr1
  have q2 := eqStr2
  go_wp2_with fail
  have hE11 : EdsV (w8.alloc (.cells #[.int .i64 1, .int .i64 2, .string (bs [98]), .int .i64 2, .int .i64 4, .string (bs [])] 35)) (some ⟨w8.heap.size, 0, none⟩) [⟨1, 2, bs [98]⟩, ⟨2, 4, bs []⟩] := EdsV.block (heap_alloc_new w8 _) rfl
  have hb11 := (Below.refl w8.heap.size w8).alloc (Nat.le_refl _) (.cells #[.int .i64 1, .int .i64 2, .string (bs [98]), .int .i64 2, .int .i64 4, .string (bs [])] 35)
  refine (Same_any c4 2 A4 _ [⟨1, 2, bs [98]⟩, ⟨2, 4, bs []⟩] [⟨1, 2, bs [98]⟩, ⟨2, 4, bs []⟩] _ (by decide) (hE9.below hb11) hE11).mono ?_
  rintro e w12 ⟨rfl, hb12⟩
  rw [decide_eq_true rfl]
  have hb812 := hb11.trans (hb12.mono hb11.size)
  have hB12 := hB8.trans (hb812.mono hB8.size)
  have hE12 := hE10.below hb812
  have hR12 := hR.below hb812
  clear hE11 hE9 hE10 hR
  go_wp2_with fail
  have hE13 : EdsV (w12.alloc (.cells #[.int .i64 2, .int .i64 2, .string (bs [98])] 35)) (some ⟨w12.heap.size, 0, none⟩) [⟨2, 2, bs [98]⟩] := EdsV.block (heap_alloc_new w12 _) rfl
  have hb13 := (Below.refl w12.heap.size w12).alloc (Nat.le_refl _) (.cells #[.int .i64 2, .int .i64 2, .string (bs [98])] 35)
  refine (Same_any c7 1 A7 _ [⟨2, 2, bs [98]⟩] [⟨2, 2, bs [98]⟩] _ (by decide) (hE12.below hb13) hE13).mono ?_
  rintro e w14 ⟨rfl, hb14⟩
  rw [decide_eq_true rfl]
  have hb1214 := hb13.trans (hb14.mono hb13.size)
  have hB14 := hB12.trans (hb1214.mono hB12.size)
  have hR14 := hR12.below hb1214
  clear hE13 hE12 hR12
  go_wp2_with fail
  refine (Lines_any _ _ (pcOf (bs [97, 98, 10, 99])) _ (by decide) hR14).mono ?_
  rintro e w15 ⟨rfl, hb15⟩
  rw [al8]
  have hR15 := hR14.below hb15
  have hB15 := hB14.trans (hb15.mono hB14.size)
  clear hR14
  go_wp2_with fail
  refine (Text_any _ _ (pcOf (bs [97, 98, 10, 99])) _ (by decide) hR15).mono ?_
  rintro e w16 ⟨rfl, hb16⟩
  rw [al9]
  have hB16 := hB15.trans (hb16.mono hB15.size)
  clear hR15
  go_wp2_with fail
  go_ret
  exact ⟨rfl, hB16⟩
end Go.Proofs.Ytmdgclcakogggaa
