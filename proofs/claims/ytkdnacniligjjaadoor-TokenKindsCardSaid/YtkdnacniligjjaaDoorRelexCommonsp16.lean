/-
  relex: the lines around a span; where tokens begin.; relex: where tokens begin (newSource), and the tokens that an edit meets (at, met, bytes).
-/
import Derived.Test.YtkdnacniligjjaaDoorRelexCommonsp15
import Derived.Lib.LastIndexByte
import Derived.Lib.IndexLaws
import Derived.Deep.RegionHeld3
import Derived.Test.YtkdnacniligjjaaDoorRelexCommonsp11
namespace Go.Proofs.YtkdnacniligjjaaDoor
set_option linter.unusedVariables false
set_option linter.unusedSimpArgs false
open Go.RowKit

/-- where the line with an offset begins, and where the one ends (behind its line feed) -/
def lnF (s : ByteArray) (f : Nat) : Nat := (Lib.lastIndexByte (s.extract 0 f) 10 + 1).toNat
def lnT (s : ByteArray) (t : Nat) : Nat := if Lib.indexByte ((byt s).drop t) 10 < 0 then s.size else t + (Lib.indexByte ((byt s).drop t) 10).toNat + 1
theorem lnF_spec {s : ByteArray} {f : Nat} (hf : f ≤ s.size) : (Lib.lastIndexByte (s.extract 0 f) 10 + 1 = (lnF s f : Int)) ∧ lnF s f ≤ f ∧ (lnF s f = 0 ∨ ∃ q, lnF s f = q + 1 ∧ at10 s q) := by
  have hsz : (s.extract 0 f).size = f := by rw [ByteArray.size_extract]; omega
  have hsp := Lib.lastIdx_spec (s.extract 0 f) 10 (s.extract 0 f).size
  have hd : Lib.lastIndexByte (s.extract 0 f) 10 = Lib.lastIdx (s.extract 0 f) 10 (s.extract 0 f).size := rfl
  unfold lnF
  rcases hsp with ⟨h1, _⟩ | ⟨i, hi, h1, h2, _⟩
  · rw [hd, h1]
    exact ⟨by simp, by simp, .inl (by simp)⟩
  · rw [hd, h1]
    refine ⟨by omega, by omega, .inr ⟨i, by omega, ?_⟩⟩
    unfold at10
    have hil : i < f := by omega
    rw [List.getElem?_eq_getElem (by rw [byt_length]; omega)]
    have h3 : ((byt s)[i]'(by rw [byt_length]; omega)) = (s.extract 0 f).data[i]! := by
      have hb : (s.extract 0 f).data.toList = (byt s).take f := byt_take s f
      have hi2 : i < (s.extract 0 f).data.toList.length := by rw [hb, List.length_take, byt_length]; omega
      rw [getElem!_pos (s.extract 0 f).data i (by simpa using hi2), ← Array.getElem_toList]
      simp only [hb, List.getElem_take]
    rw [h3]
    have : (s.extract 0 f).data[i]! = 10 := UInt8.toNat_inj.1 (by have : ((10 : UInt8).toNat : Int) = 10 := rfl; omega)
    rw [this]
theorem lnT_spec {s : ByteArray} {t : Nat} (ht : t ≤ s.size) : t ≤ lnT s t ∧ lnT s t ≤ s.size ∧ (lnT s t = s.size ∨ ∃ q, lnT s t = q + 1 ∧ t ≤ q ∧ at10 s q) := by
  unfold lnT
  have hge := Lib.indexByte_ge ((byt s).drop t) 10
  split
  · exact ⟨ht, Nat.le_refl _, .inl rfl⟩
  · rename_i h
    obtain ⟨o, ho⟩ : ∃ o : Nat, Lib.indexByte ((byt s).drop t) 10 = (o : Int) := ⟨(Lib.indexByte ((byt s).drop t) 10).toNat, by omega⟩
    have hs := (Lib.indexByte_some ho).1
    rw [List.getElem?_drop] at hs
    have hlt := (List.getElem?_eq_some_iff.1 hs).1
    rw [byt_length] at hlt
    rw [ho]
    exact ⟨by omega, by omega, .inr ⟨t + o, by omega, by omega, hs⟩⟩

theorem fin2 {w w1 : World} {g e : Nat} {a b : Value} (x y : Value) (hB : Below w.heap.size w w1) (hg : w.heap.size ≤ g) (h : w1.heap[g]? = some (.cells #[a, b] e (0, 0))) :
    Below w.heap.size w ((w1.setCell ⟨g, 0, none⟩ x).setCell ⟨g, 1, none⟩ y) ∧ ((w1.setCell ⟨g, 0, none⟩ x).setCell ⟨g, 1, none⟩ y).cell? ⟨g, 0, none⟩ = some x ∧ ((w1.setCell ⟨g, 0, none⟩ x).setCell ⟨g, 1, none⟩ y).cell? ⟨g, 1, none⟩ = some y := by
  have h3 : ((w1.setCell ⟨g, 0, none⟩ x).setCell ⟨g, 1, none⟩ y).heap[g]? = some (.cells #[x, y] e (0, 0)) := by
    unfold World.setCell
    simp only [Array.getElem?_modify, h]
    simp
  exact ⟨(hB.setCell (p := ⟨g, 0, none⟩) hg _).setCell (p := ⟨g, 1, none⟩) hg _, Lib.cell_of_heap h3 0, Lib.cell_of_heap h3 1⟩
theorem ret_sp {a b c d : Nat} (h1 : a = c) (h2 : b = d) : Ending.returned (.agg #[.int .i64 ((a : Nat) : Int), .int .i64 ((b : Nat) : Int)]) = .returned (.agg #[.int .i64 ((c : Nat) : Int), .int .i64 ((d : Nat) : Int)]) := by rw [h1, h2]

set_option maxRecDepth 100000 in
set_option maxHeartbeats 1000000 in
theorem linesOf_any (s : ByteArray) (f t : Nat) (w : World) (hs : s.size ≤ 60000) (hft : f ≤ t) (ht : t ≤ s.size) :
    Calls Tryd.prog 59 #[.string s, .agg #[.int .i64 (f : Int), .int .i64 (t : Int)]] w fun e w' => e = .returned (.agg #[.int .i64 ((lnF s f : Nat) : Int), .int .i64 ((lnT s t : Nat) : Int)]) ∧ Below w.heap.size w w' := by
  obtain ⟨w0, hw0⟩ : ∃ w0, w0 = (w.alloc (.cells #[.int .i64 (f : Int), .int .i64 (t : Int)] 84)).alloc (.cells #[.int .i64 0, .int .i64 0] 84) := ⟨_, rfl⟩
  have hB0 : Below w.heap.size w w0 := by rw [hw0]; exact ((Below.refl _ _).alloc (Nat.le_refl _) _).alloc (by simp) _
  have h1 : w0.heap[w.heap.size]? = some (.cells #[.int .i64 (f : Int), .int .i64 (t : Int)] 84 (0, 0)) := by rw [hw0]; exact (Below.heap_alloc _ _ _ (by simp)).trans (heap_alloc_new w _)
  have h2 : w0.heap[w.heap.size + 1]? = some (.cells #[.int .i64 0, .int .i64 0] 84 (0, 0)) := by rw [hw0]; exact heap_alloc2T w _ _
  have m0 : w0.cell? ⟨w.heap.size, 0, none⟩ = some (.int .i64 (f : Int)) := Lib.cell_of_heap h1 0
  have m1 : w0.cell? ⟨w.heap.size, 1, none⟩ = some (.int .i64 (t : Int)) := Lib.cell_of_heap h1 1
  have n0 : w0.cell? ⟨w.heap.size + 1, 0, none⟩ = some (.int .i64 0) := Lib.cell_of_heap h2 0
  have n1 : w0.cell? ⟨w.heap.size + 1, 1, none⟩ = some (.int .i64 0) := Lib.cell_of_heap h2 1
  have f0 : w0.frozen? ⟨w.heap.size + 1, 0, none⟩ = false := by simp [World.frozen?, h2]
  have f1 : w0.frozen? ⟨w.heap.size + 1, 1, none⟩ = false := by simp [World.frozen?, h2]
  have HB0 := Lib.hid hB0
  have H2 := Lib.hid h2
  have HW0 := Lib.hid hw0
  have hL := lnF_spec (s := s) (f := f) (by omega)
  have hLi := Lib.hid hL.1
  have hx0 : s.extract 0 f = s.extract 0 f := rfl
  have hLa : ∀ W, Calls Tryd.prog 86 #[.string (s.extract 0 f), .int .u8 10] W fun e w' => e = .returned (.int .i64 ((lnF s f : Int) - 1)) ∧ w' = W := fun W => by
    refine (Tryd.strings_LastIndexByte (s.extract 0 f) 10 (by rw [ByteArray.size_extract]; omega) W).mono fun e w' h => ⟨?_, h.2⟩
    rw [h.1, ← hL.1]
    congr 2
    omega
  have hIx : ∀ W, Calls Tryd.prog 87 #[.string (s.extract t s.size), .int .u8 10] W fun e w' => e = .returned (.int .i64 (Lib.indexByte ((byt s).drop t) 10)) ∧ w' = W := fun W => by
    have := Tryd.strings_IndexByte (s.extract t s.size) 10 W
    rw [show (s.extract t s.size).data.toList = (byt s).drop t from byt_drop s t] at this
    exact this
  have HLa := Lib.hid hLa
  have HIx := Lib.hid hIx
  have hlf := hL.2.1
  generalize hlfe : lnF s f = lf at HLa hLi hlf
  have sf : IntKind.i64.wrap ((lf : Int) - 1 + 1) = (lf : Int) := by rw [IntWalk.i64_in _ (by omega)]; omega
  have sf2 : (lf : Int) - 1 + 1 = (lf : Int) := by omega
  have hf0 : (0 : Int) ≤ (f : Int) := by omega
  have hf1 : (f : Int) ≤ (s.size : Int) := by omega
  have ht0 : (0 : Int) ≤ (t : Int) := by omega
  have ht1 : (t : Int) ≤ (s.size : Int) := by omega
  have hfs : f ≤ s.size := by omega
  have hge := Lib.indexByte_ge ((byt s).drop t) 10
  have hlt : lnT s t = if Lib.indexByte ((byt s).drop t) 10 < 0 then s.size else t + (Lib.indexByte ((byt s).drop t) 10).toNat + 1 := rfl
  have hle := (lnT_spec ht).2.1
  have HLE := Lib.hid hlfe
  clear hw0 h1 h2 hB0 hL hLa hIx hlfe hx0
  generalize Lib.indexByte ((byt s).drop t) 10 = ix at hge hlt HIx
  by_cases h : ix < 0
  · rw [if_pos h] at hlt
    have Hlt := Lib.hid hlt
    have q : decide ((0 : Int) ≤ ix) = false := by simp; omega
    have q2 : ¬ (0 : Int) ≤ ix := by omega
    clear hlt hle
    go_enter Tryd.func59, Tryd.ntmps59
    go_wp2_with fail
    rw [← HW0.out]
    refine (HLa.out w0).mono ?_
    rintro e w1 ⟨rfl, rfl⟩
    go_wp2_with fail
    refine (HIx.out w1).mono ?_
    rintro e w1 ⟨rfl, rfl⟩
    go_wp2_with fail
    obtain ⟨hB3, p0, p1⟩ := fin2 (.int .i64 (lf : Int)) (.int .i64 (s.size : Int)) HB0.out (Nat.le_succ _) H2.out
    obtain ⟨w3, hw3⟩ : ∃ w3, w3 = (w1.setCell ⟨w.heap.size + 1, 0, none⟩ (.int .i64 (lf : Int))).setCell ⟨w.heap.size + 1, 1, none⟩ (.int .i64 (s.size : Int)) := ⟨_, rfl⟩
    rw [← hw3]
    rw [← hw3] at hB3 p0 p1
    clear hw3
    refine bodyPost_ret (by simp [results, Tryd.results59, go_sem, p0, p1]; try rfl) rfl ?_
    exact ⟨ret_sp rfl Hlt.out.symm, hB3⟩
  · rw [if_neg h] at hlt
    obtain ⟨o, rfl⟩ : ∃ o : Nat, ix = (o : Int) := ⟨ix.toNat, by omega⟩
    rw [Int.toNat_natCast] at hlt
    have Hlt := Lib.hid hlt
    have q : decide ((0 : Int) ≤ (o : Int)) = true := by simp
    have s1 : IntKind.i64.wrap ((t : Int) + (o : Int)) = (t : Int) + (o : Int) := IntWalk.i64_in _ (by omega)
    have s2 : IntKind.i64.wrap ((t : Int) + (o : Int) + 1) = (t : Int) + (o : Int) + 1 := IntWalk.i64_in _ (by omega)
    have hto : (t : Int) + (o : Int) + 1 ≤ 60001 := by omega
    have ho0 : (0 : Int) ≤ (o : Int) := by omega
    clear hlt hle h
    go_enter Tryd.func59, Tryd.ntmps59
    go_wp2_with fail
    rw [← HW0.out]
    refine (HLa.out w0).mono ?_
    rintro e w1 ⟨rfl, rfl⟩
    go_wp2_with fail
    refine (HIx.out w1).mono ?_
    rintro e w1 ⟨rfl, rfl⟩
    go_wp2_with fail
    obtain ⟨hB3, p0, p1⟩ := fin2 (.int .i64 (lf : Int)) (.int .i64 ((t : Int) + (o : Int) + 1)) HB0.out (Nat.le_succ _) H2.out
    obtain ⟨w3, hw3⟩ : ∃ w3, w3 = (w1.setCell ⟨w.heap.size + 1, 0, none⟩ (.int .i64 (lf : Int))).setCell ⟨w.heap.size + 1, 1, none⟩ (.int .i64 ((t : Int) + (o : Int) + 1)) := ⟨_, rfl⟩
    rw [← hw3]
    rw [← hw3] at hB3 p0 p1
    clear hw3
    refine bodyPost_ret (by simp [results, Tryd.results59, go_sem, p0, p1]; try rfl) rfl ?_
    refine ⟨?_, hB3⟩
    rw [Hlt.out]
    push_cast
    rfl
end Go.Proofs.YtkdnacniligjjaaDoor

namespace Go.Proofs.YtkdnacniligjjaaDoor
set_option linter.unusedVariables false
set_option linter.unusedSimpArgs false
open Go.RowKit

/-- where each token begins, and at last where the string ends -/
def begL (L : List Tok) : List Nat := (List.range (L.length + 1)).map (posB L)
theorem begL_length (L : List Tok) : (begL L).length = L.length + 1 := by simp [begL]
theorem begL_get (L : List Tok) {i : Nat} (h : i < (begL L).length) : (begL L)[i] = posB L i := by simp [begL]
theorem begL_get? (L : List Tok) {i : Nat} (h : i ≤ L.length) : (begL L)[i]? = some (posB L i) := by
  rw [List.getElem?_eq_getElem (by rw [begL_length]; omega), begL_get]
theorem begL_take (L : List Tok) (k : Nat) (h : k + 1 ≤ L.length + 1) : (begL L).take (k + 1) = (List.range (k + 1)).map (posB L) := by
  unfold begL
  rw [← List.map_take, List.take_range, Nat.min_eq_left (by omega)]
theorem infoInt : (Tryd.prog.info? 3).map (fun i => (i.zero, i.size, i.bytes)) = some (some (.int .i64 0), 1, 8) := by kernel_rfl
theorem own_block1 {w : World} {base g : Nat} {x : Value} (h : w.heap[g]? = some (.cells #[x] 3 (0, 0))) (hb : base ≤ g) (h0 : ∀ h1 : w.ownsRow base 3 1 (.slice none 0 0) 0 [], True) : w.ownsRow base 3 1 (.slice (some ⟨g, 0, none⟩) 1 1) 1 [x] :=
  ⟨rfl, .inr ⟨g, 1, #[x], rfl, hb, h, Nat.le_refl _, by decide, rfl, rfl⟩⟩

set_option maxRecDepth 100000 in
set_option maxHeartbeats 1000000 in
theorem newSource_any (s : ByteArray) (c : Nat) (A : Option Addr) (L : List Tok) (w : World) (hl : L.length ≤ 60000) (hcl : (catL L).length ≤ 60000) (hE : TksV w A L) :
    Calls Tryd.prog 51 #[.string s, .slice A L.length c] w fun e w' => ∃ A' c', e = .returned (.agg #[.string s, .slice A' (L.length + 1) c']) ∧ IntsV w' A' (begL L) ∧ Below w.heap.size w w' := by
  obtain ⟨i0, hi0, hz0, hz1, hz2⟩ := info_parts infoInt
  obtain ⟨w0, hw0⟩ : ∃ w0, w0 = (w.alloc (.cells #[.string { data := #[] }, .slice none 0 0] 76)).alloc (.cells #[.int .i64 0] 3) := ⟨_, rfl⟩
  have hB0 : Below w.heap.size w w0 := by rw [hw0]; exact ((Below.refl _ _).alloc (Nat.le_refl _) _).alloc (by simp) _
  have h1 : w0.heap[w.heap.size]? = some (.cells #[.string { data := #[] }, .slice none 0 0] 76 (0, 0)) := by rw [hw0]; exact (Below.heap_alloc _ _ _ (by simp)).trans (heap_alloc_new w _)
  have h2 : w0.heap[w.heap.size + 1]? = some (.cells #[.int .i64 0] 3 (0, 0)) := by rw [hw0]; exact heap_alloc2T w _ _
  have ho : w0.ownsRow (w.heap.size + 1) 3 1 (.slice (some ⟨w.heap.size + 1, 0, none⟩) 1 1) [0].length (inCells [0]) := own_block1 h2 (Nat.le_refl _) (fun _ => trivial)
  have HO := Lib.hid ho
  have HB0 := Lib.hid hB0
  have H1 := Lib.hid h1
  have HW0 := Lib.hid hw0
  have HE := Lib.hid hE
  have HTL := Lib.hid (catL_take_le L)
  clear hw0 hB0 h1 h2 ho hE
  go_enter Tryd.func51, Tryd.ntmps51
  go_wp2_with fail
  rw [← HW0.out]
  go_loopw [5, 6, 8, 12] (fun v n _ i wr => ∃ (k m : Nat) (pre : List Nat) (v0 : Value), v0 = v ∧ k ≤ L.length ∧ i = .int .i64 k ∧ n = .int .i64 m ∧ m = posB L k ∧ pre = (List.range (k + 1)).map (posB L) ∧ wr.ownsRow (w.heap.size + 1) 3 1 v0 pre.length (inCells pre) ∧ Below w.heap.size w wr ∧ wr.heap[w.heap.size]? = some (.cells #[.string { data := #[] }, .slice none 0 0] 76 (0, 0)) ∧ w.heap.size + 1 ≤ wr.heap.size) (fun _ _ _ i _ => L.length - (intOf i).toNat)
  case atStart => exact ⟨0, 0, [0], _, rfl, Nat.zero_le _, rfl, rfl, rfl, rfl, HO.out, HB0.out, H1.out, by rw [HW0.out]; simp⟩
  case round =>
    obtain ⟨k, m, pre, v, rfl, hk, rfl, rfl, hm, hpre, hown, hB, hblk, hsw⟩ := hrel
    have hk1 : (0 : Int) ≤ (k : Int) := by omega
    have hml := HTL.out k
    change posB L k ≤ _ at hml
    rw [← hm] at hml
    have hpl : pre.length = k + 1 := by rw [hpre]; simp
    have hpl2 : pre.length ≤ 60001 := by omega
    by_cases hlt : k < L.length
    · obtain ⟨b, off, rfl, hbb, m0, m1⟩ := (HE.out.below hB).get hlt
      have hct2 := posB_succ hlt
      have htl2 := HTL.out (k + 1)
      change posB L (k + 1) ≤ _ at htl2
      rw [← hm] at hct2
      rw [hct2] at htl2
      obtain ⟨⟨kd, x⟩, hx⟩ : ∃ p, p = L[k] := ⟨_, rfl⟩
      rw [← hx] at m0 m1 hct2 htl2
      simp only at m0 m1 hct2 htl2
      have hk2 : (k : Int) < (L.length : Int) := by omega
      have sm : IntKind.i64.wrap ((m : Int) + (x.size : Int)) = ((m + x.size : Nat) : Int) := by rw [IntWalk.i64_in _ (by omega)]; omega
      have Hct := Lib.hid hct2
      have Hpre := Lib.hid hpre
      have HBlk := Lib.hid hblk
      have hs1 := hB.size
      clear hct2 hx hm hpre hpl hblk
      have hblk2 : ((wr.alloc (.cells #[.int .i64 kd, .string x] 24)).alloc (.cells #[.int .i64 ((m : Int) + (x.size : Int))] 3)).heap[w.heap.size]? = some (.cells #[.string { data := #[] }, .slice none 0 0] 76 (0, 0)) := (Below.heap_alloc _ _ _ (by simp; omega)).trans ((Below.heap_alloc _ _ _ (by omega)).trans HBlk.out)
      have hB2 : Below w.heap.size w ((wr.alloc (.cells #[.int .i64 kd, .string x] 24)).alloc (.cells #[.int .i64 ((m : Int) + (x.size : Int))] 3)) := (hB.alloc hs1 _).alloc (by simp; omega) _
      have HB2 := Lib.hid hB2
      have HBlk2 := Lib.hid hblk2
      clear hB hB2 hblk2
      go_wp2_with (at_builtin; refine wpList_append_own _ rfl _ _ 29 rfl (w.heap.size + 1) 3 i0 _ 1 8 Tryd.underlying29 hi0 hz0 hz1 hz2 rfl (by decide) _ _ _ rfl ((hown.alloc _).alloc _) ⟨wr.heap.size + 1, 0, none⟩ 1 1 [.int .i64 ((m : Int) + (x.size : Int))] rfl rfl ?c1 ?c2 ?c3 ?c4 ?c5 ?_)
      case c1 => exact World.news_of_block (heap_alloc2T wr _ _)
      case c2 => simp [Value.oneCell']
      case c3 => first | omega | (unfold maxLen; omega)
      case c4 => omega
      case c5 => first | omega | (simp; omega)
      intro v' w4 hown4 hgrow _
      have hB4 := HB2.out.grown hgrow (by simp; omega) (fun g hg => by have := (hown.lt g hg).1; omega)
      have hb4 : w4.heap[w.heap.size]? = some (.cells #[.string { data := #[] }, .slice none 0 0] 76 (0, 0)) := by
        rw [hgrow.block w.heap.size (by simp; omega) (fun e => by have := (hown.lt _ e.symm).1; omega)]
        exact HBlk2.out
      have hsz4 : w.heap.size + 1 ≤ w4.heap.size := by have := hgrow.size; simp at this; omega
      have ho4 : w4.ownsRow (w.heap.size + 1) 3 1 v' (pre ++ [m + x.size]).length (inCells (pre ++ [m + x.size])) := by
        rw [inCells_append, List.length_append]
        have := hown4
        push_cast
        exact this
      have Ho4 := Lib.hid ho4
      have HB4 := Lib.hid hB4
      have Hb4 := Lib.hid hb4
      clear hown hown4 ho4 hB4 hb4 hgrow
      go_wp2_with fail
      refine ⟨⟨k + 1, m + x.size, pre ++ [m + x.size], _, rfl, by omega, by go_num, by go_num, Hct.out.symm, ?_, Ho4.out, HB4.out, Hb4.out, hsz4⟩, by simp only [intOf]; omega⟩
      rw [Hpre.out, List.range_succ (n := k + 1), List.map_append, ← Hct.out]
      rfl
    · have hke : k = L.length := by omega
      subst hke
      have hk2 : decide ((L.length : Int) < (L.length : Int)) = false := by simp
      have hpb : pre = begL L := hpre
      subst hpb
      obtain ⟨A', c', rfl, hI, hAb⟩ := IntsV.of_own hown
      rw [begL_length] at hown
      have n0 : wr.cell? ⟨w.heap.size, 0, none⟩ = some (.string { data := #[] }) := Lib.cell_of_heap hblk 0
      have n1 : wr.cell? ⟨w.heap.size, 1, none⟩ = some (.slice none 0 0) := Lib.cell_of_heap hblk 1
      have f0 : wr.frozen? ⟨w.heap.size, 0, none⟩ = false := by simp [World.frozen?, hblk]
      have f1 : wr.frozen? ⟨w.heap.size, 1, none⟩ = false := by simp [World.frozen?, hblk]
      have HI := Lib.hid hI
      have HBr := Lib.hid hB
      have HBlk := Lib.hid hblk
      have HAb := Lib.hid hAb
      have hlen := begL_length L
      rw [hlen]
      clear hI hB hblk hAb hown hpre hpl hpl2 hm
      go_wp2_with fail
      obtain ⟨hB3, p0, p1⟩ := fin2 (.string s) (.slice A' (L.length + 1) c') HBr.out (Nat.le_refl _) HBlk.out
      obtain ⟨w3, hw3⟩ : ∃ w3, w3 = (wr.setCell ⟨w.heap.size, 0, none⟩ (.string s)).setCell ⟨w.heap.size, 1, none⟩ (.slice A' (L.length + 1) c') := ⟨_, rfl⟩
      have hI3 : IntsV w3 A' (begL L) := by
        intro hl0
        obtain ⟨b, hb1, hb2, hb3⟩ := HI.out hl0
        have hbn : w.heap.size + 1 ≤ b := HAb.out _ hb1
        refine ⟨b, hb1, by rw [hw3]; simpa [World.setCell] using hb2, fun i x hx => ?_⟩
        have hc := hb3 i x hx
        have he : w3.heap[b]? = wr.heap[b]? := by
          rw [hw3]
          exact (Below.heap_setCell _ _ _ _ (by simp; omega)).trans (Below.heap_setCell _ _ _ _ (by simp; omega))
        have : w3.cell? ⟨b, i, none⟩ = wr.cell? ⟨b, i, none⟩ := by simp only [World.cell?, he]
        rw [this]; exact hc
      rw [← hw3]
      rw [← hw3] at hB3 p0 p1
      clear hw3
      refine bodyPost_ret (by simp [results, Tryd.results51, go_sem, p0, p1]; try rfl) rfl ?_
      exact ⟨A', c', rfl, hI3, hB3⟩
end Go.Proofs.YtkdnacniligjjaaDoor
