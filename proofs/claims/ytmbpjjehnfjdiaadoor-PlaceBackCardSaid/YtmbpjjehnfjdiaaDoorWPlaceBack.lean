/-
  PlaceBack: Offset of Of is the offset; Of of Offset, and Near of a place that there is, are the same.
  No condition: every input.
-/
import Derived.Test.YtmbpjjehnfjdiaaDoorPlRef2
namespace Go.Proofs.YtmbpjjehnfjdiaaDoor.lawPlaceBack
set_option linter.unusedVariables false
set_option linter.unusedSimpArgs false
open Go.ChangeShapes Go.WideShapes Go.RowKit
open Go.ChangeMaps (open_string shut_string)

theorem near_of_has {s : ByteArray} {a b : Int} {o o' : Nat} (h : HasOff s a b o) (h' : NearAll s a b o') : o = o' := by
  obtain ⟨l, rfl, hl, hn⟩ := h.near
  exact NearAll.unique (.inr (.inr ⟨l, rfl, hl, hn⟩)) h'
theorem NeR.ok {s : ByteArray} {a b : Int} {e : Ending} (h : NeR s a b e) (hz : s.size ≤ 20000) : ∃ o : Nat, NearAll s a b o ∧ o ≤ s.size ∧ e = .returned (.tuple #[.int .i64 (o : Int), .int .i64 0]) := by
  rcases h with ⟨h, _⟩ | ⟨_, h⟩
  · omega
  · exact h

set_option maxRecDepth 100000 in
set_option maxHeartbeats 4000000 in
theorem walk (t : ByteArray) (ht : t.size ≤ maxLen) (off : Int) (wo : (Lit.int .u16 off).wf = true) (a b : Int) (wa : (Lit.int .i64 a).wf = true) (wb : (Lit.int .i64 b).wf = true)
    (w : World) (hT : Lib.Utf8Tabs 0 1 w) :
    Calls Tryd.prog 7 #[.string t, .int .u16 off, .agg #[.int .i64 a, .int .i64 b]] w fun e w' => e = .returned (.bool true) ∧ Below w.heap.size w w' := by
  have hof : 0 ≤ off ∧ off < 65536 := by
    have h' : IntKind.u16.min ≤ off ∧ off ≤ IntKind.u16.max := by simpa [Lit.wf] using wo
    have e1 : IntKind.u16.min = 0 := rfl
    have e2 : IntKind.u16.max = 65535 := rfl
    omega
  have hst := short_sz t
  obtain ⟨w1, hw1⟩ : ∃ w1, w1 = w.alloc (.cells #[.int .i64 a, .int .i64 b] 23) := ⟨_, rfl⟩
  have hB1 : Below w.heap.size w w1 := by rw [hw1]; exact (Below.refl _ _).alloc (Nat.le_refl _) _
  have z1 : w1.heap.size = w.heap.size + 1 := by rw [hw1]; simp
  have k1 : w1.heap[w.heap.size]? = some (.cells #[.int .i64 a, .int .i64 b] 23 (0, 0)) := by rw [hw1]; exact heap_alloc_new w _
  have hbox : ∀ X : World, Below w1.heap.size w1 X → X.cell? ⟨w.heap.size, 0, none⟩ = some (.int .i64 a) ∧ X.cell? ⟨w.heap.size, 1, none⟩ = some (.int .i64 b) := fun X h =>
    ⟨Lib.cell_of_heap ((h.block _ (by omega)).trans k1) 0, Lib.cell_of_heap ((h.block _ (by omega)).trans k1) 1⟩
  have HBX := Lib.hid hbox
  have hsh := Short_any t w1 ht
  generalize shortB t = s at hst hsh
  have Hsh := Lib.hid hsh
  have HE := Lib.hid hw1.symm
  clear hsh ht wo wa wb hw1 k1 hbox
  have hs6 : s.size ≤ 60000 := by omega
  by_cases h0 : 20000 < s.size
  · go_enter Tryd.func7, Tryd.ntmps7
    go_wp2_with fail
    rw [HE.out]
    refine Hsh.out.mono ?_
    rintro e w2 ⟨rfl, rfl⟩
    go_wp2_with fail
    with_reducible refine (palive_any _ (Utf8Tabs_below hT hB1)).mono ?_
    rintro e w6 ⟨rfl, hb6⟩
    go_wp2_with fail
    go_ret
    exact ⟨rfl, hB1.trans (hb6.mono hB1.size)⟩
  · have hz : s.size ≤ 20000 := by omega
    obtain ⟨o, hp, hol⟩ : ∃ o : Nat, off.tmod ((s.size : Int) + 1) = (o : Int) ∧ o ≤ s.size := ⟨off.toNat % (s.size + 1), by
      rw [Int.tmod_eq_emod_of_nonneg hof.1]
      obtain ⟨x, rfl⟩ := Int.eq_ofNat_of_zero_le hof.1
      rw [Int.toNat_natCast]
      simp, by have := Nat.mod_lt off.toNat (show 0 < s.size + 1 by omega); omega⟩
    have hne : ((s.size : Int) + 1 == 0) = false := by rw [beq_eq_false_iff_ne]; omega
    go_enter Tryd.func7, Tryd.ntmps7
    go_wp2_with fail
    rw [HE.out]
    refine Hsh.out.mono ?_
    rintro e w2 ⟨rfl, rfl⟩
    go_wp2_with fail
    with_reducible refine (Of_any s (o : Int) _ hs6 (Utf8Tabs_below hT hB1)).mono ?_
    rintro e w2 ⟨hR, hb2⟩
    have hB2 := hB1.trans (hb2.mono hB1.size)
    by_cases hch : ∃ u, Ch s 0 o u
    · obtain ⟨u, hu⟩ := id hch
      obtain ⟨c, hc⟩ := Ch.of_LS hol hu
      have hpl : PlaceAt s o (feedsL ((byt s).take o)) c := ⟨rfl, hc⟩
      generalize feedsL ((byt s).take o) = l at hpl
      obtain rfl := OfR.ok (o := o) hR hz hch hol hpl
      have hhas := hpl.has hol
      have HHAS := Lib.hid hhas
      clear hR hu hc hpl hhas hch
      have hco : Below w2.heap.size w2 (w2.alloc (.cells #[.int .i64 (l : Int), .int .i64 (c : Int)] 23)) := (Below.refl _ _).alloc (Nat.le_refl _) _
      have HKN := Lib.hid (heap_alloc_new w2 (.cells #[.int .i64 (l : Int), .int .i64 (c : Int)] 23))
      have hb12 := hb2.trans (hco.mono hb2.size)
      go_wp2_with fail
      with_reducible refine (Offset_any s (l : Int) (c : Int) _ hs6).mono ?_
      rintro e w3 ⟨hR, hb3⟩
      obtain rfl := hR.ok hz HHAS.out
      have hb13 := hb12.trans (hb3.mono hb12.size)
      have HK3 := Lib.hid ((hb3.block w2.heap.size (by simp)).trans HKN.out)
      have q0 : w3.cell? ⟨w2.heap.size, 0, none⟩ = some (.int .i64 (l : Int)) := Lib.cell_of_heap HK3.out 0
      have q1 : w3.cell? ⟨w2.heap.size, 1, none⟩ = some (.int .i64 (c : Int)) := Lib.cell_of_heap HK3.out 1
      clear hR
      go_wp2_with fail
      with_reducible refine (Near_any s (l : Int) (c : Int) _ hs6).mono ?_
      rintro e w4 ⟨hR, hb4⟩
      obtain ⟨o', hn, _, rfl⟩ := NeR.ok hR hz
      obtain rfl := near_of_has HHAS.out hn
      have hb14 := hb13.trans (hb4.mono hb13.size)
      clear hR hn q0 q1
      obtain ⟨m0, m1⟩ := HBX.out _ hb14
      go_wp2_with fail
      with_reducible refine (Offset_any s a b _ hs6).mono ?_
      rintro e w6 ⟨hR, hb6⟩
      have hb16 := (hb14).trans (hb6.mono (hb14).size)
      have hway : (∃ o2 : Nat, HasOff s a b o2 ∧ e = .returned (.tuple #[.int .i64 (o2 : Int), .int .i64 0])) ∨ e = .returned (.tuple #[.int .i64 0, .int .i64 2]) := by
        rcases hR with ⟨h, _⟩ | ⟨_, h⟩ | ⟨_, _, h⟩
        · omega
        · exact .inl h
        · exact .inr h
      obtain ⟨n0, n1⟩ := HBX.out _ hb16
      clear hR m0 m1
      rcases hway with ⟨o2, hh2, rfl⟩ | rfl
      · have HH2 := Lib.hid hh2
        clear hh2
        go_wp2_with fail
        with_reducible refine (Near_any s a b _ hs6).mono ?_
        rintro e w7 ⟨hR, hb7⟩
        obtain ⟨o3, hn, _, rfl⟩ := NeR.ok hR hz
        obtain rfl := near_of_has HH2.out hn
        have hb17 := hb16.trans (hb7.mono hb16.size)
        have hB7 := hB1.trans (hb17.mono hB1.size)
        obtain ⟨l3, c3, e3, e4, hpl3, ho3, hch3⟩ := HH2.out.place
        have HP3 := Lib.hid (And.intro hpl3 (And.intro ho3 hch3))
        have ho3' := ho3
        obtain ⟨k0, k1⟩ := HBX.out _ hb17
        rw [e3] at k0
        rw [e4] at k1
        clear hR hn n0 n1 hpl3 ho3 hch3 e3 e4
        go_wp2_with fail
        with_reducible refine (Of_any s (o2 : Int) _ hs6 (Utf8Tabs_below hT hB7)).mono ?_
        rintro e w8 ⟨hR, hb8⟩
        obtain rfl := OfR.ok (o := o2) hR hz HP3.out.2.2 HP3.out.2.1 HP3.out.1
        have hB8 := hB7.trans (hb8.mono hB7.size)
        have hlt8 : w.heap.size < w7.heap.size := by have := hb17.size; omega
        have k0' : w8.cell? ⟨w.heap.size, 0, none⟩ = some (.int .i64 (l3 : Int)) := ((bcell hb8).1 _ 0 hlt8).trans k0
        have k1' : w8.cell? ⟨w.heap.size, 1, none⟩ = some (.int .i64 (c3 : Int)) := ((bcell hb8).1 _ 1 hlt8).trans k1
        have hBA := hB8.alloc hB8.size (.cells #[.int .i64 (l3 : Int), .int .i64 (c3 : Int)] 23)
        have hlt9 : w.heap.size < w8.heap.size := by have := hb8.size; omega
        clear hR k0 k1
        go_wp2_with fail
        with_reducible refine (palive_any _ (Utf8Tabs_below hT hBA)).mono ?_
        rintro e w9 ⟨rfl, hb9⟩
        go_wp2_with fail
        go_ret
        exact ⟨rfl, hBA.trans (hb9.mono hBA.size)⟩
      · go_wp2_with fail
        with_reducible refine (Near_any s a b _ hs6).mono ?_
        rintro e w7 ⟨hR, hb7⟩
        obtain ⟨o3, hn, ho3, rfl⟩ := NeR.ok hR hz
        have hb17 := hb16.trans (hb7.mono hb16.size)
        have hB7 := hB1.trans (hb17.mono hB1.size)
        clear hR hn
        go_wp2_with fail
        with_reducible refine (palive_any _ (Utf8Tabs_below hT hB7)).mono ?_
        rintro e w9 ⟨rfl, hb9⟩
        go_wp2_with fail
        go_ret
        exact ⟨rfl, hB7.trans (hb9.mono hB7.size)⟩
    · obtain rfl := OfR.no (o := o) hR hz hch
      have HNO := Lib.hid hch
      clear hR hch
      have hco : Below w2.heap.size w2 (w2.alloc (.cells #[.int .i64 0, .int .i64 0] 23)) := (Below.refl _ _).alloc (Nat.le_refl _) _
      have hb12 := hb2.trans (hco.mono hb2.size)
      go_wp2_with fail
      with_reducible refine (rBegins_any s _ hs6).mono ?_
      rintro e w5 ⟨g, cap, xs, rfl, hown, hxs, hb5⟩
      obtain ⟨b5, hb5x, hb5i⟩ := hxs o hol
      obtain rfl : b5 = false := by
        cases b5
        · rfl
        · exact absurd (hb5i.1 rfl).2 HNO.out
      have y1 : w5.cell? ⟨g, o, none⟩ = some (.bool false) := by rw [hown.cellAt _ (by omega)]; exact hb5x
      have y2 : (o : Int) < (s.size : Int) + 1 := by omega
      have hb15 := hb12.trans (hb5.mono hb12.size)
      clear hxs hb5x hb5i hown
      obtain ⟨m0, m1⟩ := HBX.out _ hb15
      go_wp2_with fail
      with_reducible refine (Offset_any s a b _ hs6).mono ?_
      rintro e w6 ⟨hR, hb6⟩
      have hb16 := (hb15).trans (hb6.mono (hb15).size)
      have hway : (∃ o2 : Nat, HasOff s a b o2 ∧ e = .returned (.tuple #[.int .i64 (o2 : Int), .int .i64 0])) ∨ e = .returned (.tuple #[.int .i64 0, .int .i64 2]) := by
        rcases hR with ⟨h, _⟩ | ⟨_, h⟩ | ⟨_, _, h⟩
        · omega
        · exact .inl h
        · exact .inr h
      obtain ⟨n0, n1⟩ := HBX.out _ hb16
      clear hR m0 m1
      rcases hway with ⟨o2, hh2, rfl⟩ | rfl
      · have HH2 := Lib.hid hh2
        clear hh2
        go_wp2_with fail
        with_reducible refine (Near_any s a b _ hs6).mono ?_
        rintro e w7 ⟨hR, hb7⟩
        obtain ⟨o3, hn, _, rfl⟩ := NeR.ok hR hz
        obtain rfl := near_of_has HH2.out hn
        have hb17 := hb16.trans (hb7.mono hb16.size)
        have hB7 := hB1.trans (hb17.mono hB1.size)
        obtain ⟨l3, c3, e3, e4, hpl3, ho3, hch3⟩ := HH2.out.place
        have HP3 := Lib.hid (And.intro hpl3 (And.intro ho3 hch3))
        have ho3' := ho3
        obtain ⟨k0, k1⟩ := HBX.out _ hb17
        rw [e3] at k0
        rw [e4] at k1
        clear hR hn n0 n1 hpl3 ho3 hch3 e3 e4
        go_wp2_with fail
        with_reducible refine (Of_any s (o2 : Int) _ hs6 (Utf8Tabs_below hT hB7)).mono ?_
        rintro e w8 ⟨hR, hb8⟩
        obtain rfl := OfR.ok (o := o2) hR hz HP3.out.2.2 HP3.out.2.1 HP3.out.1
        have hB8 := hB7.trans (hb8.mono hB7.size)
        have hlt8 : w.heap.size < w7.heap.size := by have := hb17.size; omega
        have k0' : w8.cell? ⟨w.heap.size, 0, none⟩ = some (.int .i64 (l3 : Int)) := ((bcell hb8).1 _ 0 hlt8).trans k0
        have k1' : w8.cell? ⟨w.heap.size, 1, none⟩ = some (.int .i64 (c3 : Int)) := ((bcell hb8).1 _ 1 hlt8).trans k1
        have hBA := hB8.alloc hB8.size (.cells #[.int .i64 (l3 : Int), .int .i64 (c3 : Int)] 23)
        have hlt9 : w.heap.size < w8.heap.size := by have := hb8.size; omega
        clear hR k0 k1
        go_wp2_with fail
        with_reducible refine (palive_any _ (Utf8Tabs_below hT hBA)).mono ?_
        rintro e w9 ⟨rfl, hb9⟩
        go_wp2_with fail
        go_ret
        exact ⟨rfl, hBA.trans (hb9.mono hBA.size)⟩
      · go_wp2_with fail
        with_reducible refine (Near_any s a b _ hs6).mono ?_
        rintro e w7 ⟨hR, hb7⟩
        obtain ⟨o3, hn, ho3, rfl⟩ := NeR.ok hR hz
        have hb17 := hb16.trans (hb7.mono hb16.size)
        have hB7 := hB1.trans (hb17.mono hB1.size)
        clear hR hn
        go_wp2_with fail
        with_reducible refine (palive_any _ (Utf8Tabs_below hT hB7)).mono ?_
        rintro e w9 ⟨rfl, hb9⟩
        go_wp2_with fail
        go_ret
        exact ⟨rfl, hB7.trans (hb9.mono hB7.size)⟩
end Go.Proofs.YtmbpjjehnfjdiaaDoor.lawPlaceBack
