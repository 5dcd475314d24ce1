/-
  Contracts of lineOf, begin, placeOf of place.
-/
import Derived.Test.YtmbpjjehnfjdiaaDoorPl2
namespace Go.Proofs.YtmbpjjehnfjdiaaDoor
set_option linter.unusedVariables false
set_option linter.unusedSimpArgs false
open Go.RowKit

set_option maxRecDepth 100000 in
set_option maxHeartbeats 1000000 in
theorem lineOf_any (s : ByteArray) (n : Int) (w : World) (hs : s.size ≤ 60000) :
    Calls Tryd.prog 34 #[.string s, .int .i64 n] w fun e w' => LineR s n e ∧ Below w.heap.size w w' := by
  have hw0 : Below w.heap.size w (w.alloc (.cells #[.int .i64 0, .int .i64 0] 39)) := (Below.refl _ _).alloc (Nat.le_refl _) _
  by_cases hn : n < 0
  · go_enter Tryd.func34, Tryd.ntmps34
    go_wp2_with fail
    exact bodyPost_ret (v := .tuple #[.agg #[.int .i64 0, .int .i64 0], .bool false]) (by simp [results, Tryd.results34, go_sem]) rfl ⟨.inr ⟨.inl hn, rfl⟩, hw0⟩
  · have hn0 : 0 ≤ n := by omega
    have hfl := feedsL_le (byt s)
    rw [byt_length] at hfl
    go_enter Tryd.func34, Tryd.ntmps34
    go_wp2_with fail
    go_loopw [6, 12] (fun fr i wr => ∃ k : Nat, k ≤ feedsL (byt s) ∧ (k : Int) ≤ n ∧ fr = .int .i64 (lst (byt s) k : Int) ∧ i = .int .i64 (k : Int) ∧ wr = w.alloc (.cells #[.int .i64 0, .int .i64 0] 39)) (fun _ i _ => (n - intOf i).toNat)
    case atStart => exact ⟨0, by omega, hn0, rfl, rfl, rfl⟩
    case round =>
      obtain ⟨k, hk, hkn, rfl, rfl, rfl⟩ := hrel
      have hls := lst_le_len s k hk
      have hfe := feedAt_lst (byt s) k hk
      have hfz := feedAt_le_len s k
      have Hfe := Lib.hid hfe.symm
      clear hfe
      by_cases hlt : (k : Int) < n
      · by_cases hkf : k = feedsL (byt s)
        · have hend : feedAt (byt s) k = s.size := by rw [feedAt_none _ _ (by omega), byt_length]
          have Hend := Lib.hid hend
          have Hkf := Lib.hid hkf
          clear hend hkf
          go_wp2_with fail
          with_reducible refine (lineEnd_any s _ _ hs hls).mono ?_
          rw [Hfe.out, Hend.out]
          rintro e w3 ⟨rfl, rfl⟩
          go_wp2_with fail
          exact bodyPost_ret (v := .tuple #[.agg #[.int .i64 0, .int .i64 0], .bool false]) (by simp [results, Tryd.results34, go_sem]) rfl ⟨.inr ⟨.inr (by have := Hkf.out; omega), rfl⟩, hw0⟩
        · have hlt2 := feedAt_lt (byt s) k (by omega)
          rw [byt_length] at hlt2
          have q : (((feedAt (byt s) k : Nat) : Int) == (s.size : Int)) = false := by rw [beq_eq_false_iff_ne]; omega
          go_wp2_with fail
          with_reducible refine (lineEnd_any s _ _ hs hls).mono ?_
          rw [Hfe.out]
          rintro e w3 ⟨rfl, rfl⟩
          go_wp2_with fail
          exact ⟨⟨k + 1, by omega, by omega, by rw [lst_succ]; go_num, by go_num, trivial⟩, by simp [intOf]; omega⟩
      · go_wp2_with fail
        with_reducible refine (lineEnd_any s _ _ hs hls).mono ?_
        rw [Hfe.out]
        rintro e w3 ⟨rfl, rfl⟩
        go_wp2_with fail
        refine bodyPost_ret (v := .tuple #[.agg #[.int .i64 (lst (byt s) k : Int), .int .i64 (feedAt (byt s) k : Int)], .bool true]) (by simp [results, Tryd.results34, go_sem]) rfl ⟨.inl ⟨k, by omega, hk, rfl⟩, (Below.refl _ _).alloc (Nat.le_refl _) _⟩

/-- the beginning of the character that an offset is inside of, or else the offset -/
def BegR (s : ByteArray) (o b : Nat) : Prop := b ≤ o ∧ (∃ w, Ch s 0 b w) ∧ (b = o ∨ (b < s.size ∧ o < b + dn s b))
theorem BegR.unique {s : ByteArray} {o b b' : Nat} (h : BegR s o b) (h' : BegR s o b') : b = b' := by
  have key : ∀ {b b' : Nat}, BegR s o b → BegR s o b' → b' ≤ b := by
    intro b b' h h'
    obtain ⟨h1, ⟨w, hw⟩, h2⟩ := h
    obtain ⟨h1', ⟨w', hw'⟩, h2'⟩ := h'
    rcases Nat.lt_or_ge b b' with hlt | hge
    · exfalso
      rcases h2 with rfl | ⟨_, h2⟩
      · omega
      · exact hw.inside hlt (by omega) hw'
    · exact hge
  exact Nat.le_antisymm (key h' h) (key h h')
theorem BegR.self {s : ByteArray} {o w : Nat} (h : Ch s 0 o w) : BegR s o o := ⟨Nat.le_refl _, ⟨w, h⟩, .inl rfl⟩
theorem BegR.is_self {s : ByteArray} {o b : Nat} (h : BegR s o b) : b = o ↔ ∃ w, Ch s 0 o w := by
  constructor
  · rintro rfl; exact h.2.1
  · rintro ⟨w, hw⟩; exact h.unique (BegR.self hw)
theorem decGo (s : ByteArray) (o : Nat) (h : o < s.size) : Lib.decodeGo (s.extract o s.size) = Utf8.decode s o := by
  unfold Lib.decodeGo
  rw [if_neg (by rw [Lib.tail_size]; omega), Lib.tail_decode]
  rfl

set_option maxRecDepth 100000 in
set_option maxHeartbeats 1000000 in
theorem begin_any (s : ByteArray) (o : Nat) (w : World) (hs : s.size ≤ 60000) (ho : o ≤ s.size) (hT : Lib.Utf8Tabs 0 1 w) :
    Calls Tryd.prog 32 #[.string s, .int .i64 (o : Int)] w fun e w' => ∃ b : Nat, e = .returned (.int .i64 (b : Int)) ∧ BegR s o b ∧ Below w.heap.size w w' := by
  go_enter Tryd.func32, Tryd.ntmps32
  go_wp2_with fail
  go_loopw [5] (fun b wr => ∃ k : Nat, 1 ≤ k ∧ k ≤ 4 ∧ b = .int .i64 (k : Int) ∧ (∀ j, 1 ≤ j → j < k → j ≤ o → dn s (o - j) ≤ j) ∧ Below w.heap.size w wr) (fun b _ => 4 - (intOf b).toNat)
  case atStart => exact ⟨1, by omega, by omega, rfl, fun j h1 h2 => by omega, Below.refl _ _⟩
  case round =>
    obtain ⟨k, hk1, hk4, rfl, hj, hB⟩ := hrel
    have HJ := Lib.hid hj
    clear hj
    have hfin : ¬ (k < 4 ∧ k ≤ o) → BegR s o o := by
      intro hno
      obtain ⟨j, u, hu, hjo, hc⟩ := Ch.cover (s := s) (Nat.zero_le o) ho
      rcases hc with rfl | ⟨hjs, hc⟩
      · exact BegR.self hu
      · by_cases he : j = o
        · subst he; exact BegR.self hu
        · have h4 := dn_le4 s j
          have h5 := HJ.out (o - j) (by omega) (by omega) (by omega)
          rw [show o - (o - j) = j by omega] at h5
          omega
    have HF := Lib.hid hfin
    clear hfin
    by_cases hc4 : k < 4
    · by_cases hco : k ≤ o
      · have s1 : IntKind.i64.wrap ((o : Int) - (k : Int)) = ((o - k : Nat) : Int) := by rw [Int.ofNat_sub hco]; exact IntWalk.i64_in _ (by omega)
        have n1 : o - k ≤ s.size := by omega
        have n2 : o - k < s.size := by omega
        have hdg := decGo s (o - k) n2
        have hdn : (Utf8.decode s (o - k)).2 = dn s (o - k) := rfl
        have hdp := dn_le4 s (o - k)
        have Hdg := Lib.hid hdg
        have Hdn := Lib.hid hdn
        clear hdg hdn
        go_wp2_with fail
        with_reducible refine (Tryd.utf8_DecodeRuneInString _ _ (Utf8Tabs_below hT hB)).mono ?_
        rw [Hdg.out, Hdn.out]
        rintro e w1 ⟨rfl, hb1⟩
        by_cases hq : k < dn s (o - k)
        · go_wp2_with fail
          go_ret
          refine ⟨o - k, rfl, ⟨by omega, ?_, .inr ⟨n2, by omega⟩⟩, hB.trans (hb1.mono hB.size)⟩
          have := dn_lead s (o - k) (by omega)
          exact Ch.at_lead (Nat.zero_le _) n1 (.inr (by have h2 : bt s (o - k) < 256 := (s.get! (o - k)).toNat_lt; omega))
        · go_wp2_with fail
          refine ⟨⟨k + 1, by omega, by omega, by go_num, fun j h1 h2 h3 => ?_, hB.trans (hb1.mono hB.size)⟩, by simp [intOf]; omega⟩
          by_cases he : j = k
          · subst he; omega
          · exact HJ.out j h1 (by omega) h3
      · go_wp2_with fail
        go_ret
        exact ⟨o, rfl, HF.out (by omega), hB⟩
    · go_wp2_with fail
      go_ret
      exact ⟨o, rfl, HF.out (by omega), hB⟩

theorem byt_head (s : ByteArray) (o : Nat) : byt (s.extract 0 o) = (byt s).take o := by
  show sub s 0 o = _
  rw [sub_eq]; simp [byt]
theorem LS_take (x : List UInt8) (o : Nat) (h : o ≤ x.length) : LS (x.take o) o = LS x o := by
  unfold LS
  rw [List.take_take, Nat.min_self]
  unfold lst
  by_cases h0 : feedsL (x.take o) = 0
  · simp [h0]
  · rw [if_neg h0, if_neg h0]
    have := feedAt_left (x.take o) (x.drop o) (feedsL (x.take o) - 1) (by omega)
    rw [List.take_append_drop] at this
    rw [this]

set_option maxRecDepth 100000 in
set_option maxHeartbeats 1000000 in
theorem placeOf_any (s : ByteArray) (o l c : Nat) (w : World) (hs : s.size ≤ 60000) (ho : o ≤ s.size) (hp : PlaceAt s o l c) :
    Calls Tryd.prog 33 #[.string s, .int .i64 (o : Int)] w fun e w' => e = .returned (.agg #[.int .i64 (l : Int), .int .i64 (c : Int)]) ∧ Below w.heap.size w w' := by
  obtain ⟨rfl, hc⟩ := hp
  have hol : o ≤ (byt s).length := by rw [byt_length]; exact ho
  obtain ⟨b0, hb0⟩ : ∃ b0, b0 = s.extract 0 o := ⟨_, rfl⟩
  have hbz : b0.size = o := by rw [hb0, ByteArray.size_extract]; omega
  have hbb : byt b0 = (byt s).take o := by rw [hb0]; exact byt_head s o
  have hlb : Lib.lastIndexByte b0 10 + 1 = (LS (byt s) o : Int) := by
    have := last_feed b0 b0.size (Nat.le_refl _)
    rw [hbb, hbz, LS_take _ _ hol] at this
    rw [← this]; unfold Lib.lastIndexByte; rw [hbz]
  have hle := LS_le (byt s) o hol
  have hcn : Lib.countByte b0.data.toList 10 = feedsL ((byt s).take o) := by rw [← hbb]; exact count_feeds _
  have hc1 : Ch b0 (LS (byt s) o) o c := by have := hc.to_extract (a := 0) ho (Nat.zero_le _); rw [← hb0] at this; exact this
  obtain ⟨b1, hb1⟩ : ∃ b1, b1 = b0.extract (LS (byt s) o) o := ⟨_, rfl⟩
  have hb1z : b1.size = o - LS (byt s) o := by rw [hb1, ByteArray.size_extract]; omega
  have hc2 : Ch b1 0 b1.size c := by
    have := hc1.to_extract (a := LS (byt s) o) (b := o) (by omega) (Nat.le_refl _)
    rw [Nat.sub_self] at this
    rw [hb1z, hb1]; exact this
  have hlim : Lib.lastIndexByte b0 10 = (LS (byt s) o : Int) - 1 := by omega
  have Hlim := Lib.hid hlim
  have Hcn := Lib.hid hcn
  have Hc2 := Lib.hid hc2
  have hfc := feedsL_take_le (byt s) o
  have hfl := feedsL_le (byt s)
  rw [byt_length] at hfl
  have hls0 : 0 ≤ LS (byt s) o := Nat.zero_le _
  have HB0 := Lib.hid hb0.symm
  have HB1 := Lib.hid hb1.symm
  generalize LS (byt s) o = ls at *
  generalize feedsL ((byt s).take o) = fc at *
  clear hlb hcn hc hc1 hc2 hbb hol hb0 hb1 hlim
  have s1 : IntKind.i64.wrap ((ls : Int) - 1 + 1) = (ls : Int) := by rw [Int.sub_add_cancel]; exact IntWalk.i64_in _ (by omega)
  have n1 : ls ≤ b0.size := by omega
  go_enter Tryd.func33, Tryd.ntmps33
  go_wp2_with fail
  rw [HB0.out]
  with_reducible refine (Tryd.strings_LastIndexByte _ _ (by omega) _).mono ?_
  rw [Hlim.out]
  rintro e w1 ⟨rfl, rfl⟩
  go_wp2_with fail
  with_reducible refine (Tryd.strings_Count_one _ _ _).mono ?_
  rw [Hcn.out]
  rintro e w1 ⟨rfl, rfl⟩
  go_wp2_with fail
  rw [HB1.out]
  with_reducible refine (widthOf_any b1 _ (by omega)).mono ?_
  rintro e w2 ⟨W, rfl, hW, hb2⟩
  obtain rfl := Hc2.out.det hW
  have hnew := (hb2.block w.heap.size (by simp)).trans (heap_alloc_new w _)
  have e0 : w2.cell? ⟨w.heap.size, 0, none⟩ = some (.int .i64 0) := Lib.cell_of_heap hnew 0
  have e1 : w2.cell? ⟨w.heap.size, 1, none⟩ = some (.int .i64 0) := Lib.cell_of_heap hnew 1
  have f0 : w2.frozen? ⟨w.heap.size, 0, none⟩ = false := by simp [World.frozen?, hnew]
  have f1 : w2.frozen? ⟨w.heap.size, 1, none⟩ = false := by simp [World.frozen?, hnew]
  have hBW : Below w.heap.size w w2 := ((Below.refl _ _).alloc (Nat.le_refl _) _).trans (hb2.mono (by simp))
  go_wp2_with fail
  exact bodyPost_ret (v := .agg #[.int .i64 (fc : Int), .int .i64 (c : Int)]) (by simp [results, Tryd.results33, go_sem, e0, e1]) rfl ⟨rfl, (hBW.setCell (p := ⟨w.heap.size, 0, none⟩) (Nat.le_refl _) _).setCell (p := ⟨w.heap.size, 1, none⟩) (Nat.le_refl _) _⟩
end Go.Proofs.YtmbpjjehnfjdiaaDoor
