/-
  relex: how many bytes lie in lines that an edit meets (plain mathematics).; relex: Line.; relex: what is taken over is the same in both lists (plain mathematics).; The contract of the specification's Lex.
-/
import Derived.Test.YtkdnacniligjjaaDoorRelexCommonsp16
import Derived.Test.YtkdnacniligjjaaDoorRelexCommonsp13
import Derived.Test.YtkdnacniligjjaaDoorRelexCommonsp23
import Derived.Test.YtkdnacniligjjaaDoorRelexCommonsp28
import Derived.Test.YtkdnacniligjjaaDoorRelexCommonsp22
import Derived.Test.YtkdnacniligjjaaDoorRelexCommonsp26
namespace Go.Proofs.YtkdnacniligjjaaDoor
set_option linter.unusedVariables false
set_option linter.unusedSimpArgs false

def lineStep (y : ByteArray) (acc : Int × Int) (e : Ed) : Int × Int :=
  (acc.1 + (((lnT y e.t.toNat : Nat) : Int) - max ((lnF y e.f.toNat : Nat) : Int) acc.2), ((lnT y e.t.toNat : Nat) : Int))
def lineF (y : ByteArray) (l : List Ed) : Int × Int := l.foldl (lineStep y) (0, 0)
theorem lineF_take {y : ByteArray} {l : List Ed} {k : Nat} (h : k < l.length) : lineF y (l.take (k + 1)) = lineStep y (lineF y (l.take k)) l[k] := by
  unfold lineF
  rw [List.take_succ_eq_append_getElem h, List.foldl_append]
  rfl
theorem lineFold_bd (y : ByteArray) (hy : y.size ≤ 60000) : ∀ (l : List Ed) (n : Nat) (acc : Int × Int), (∀ e ∈ l, e.f.toNat ≤ y.size ∧ e.t.toNat ≤ y.size) → 0 ≤ acc.2 → acc.2 ≤ y.size → -(60000 * (n : Int)) ≤ acc.1 → acc.1 ≤ 60000 * (n : Int) →
    0 ≤ (l.foldl (lineStep y) acc).2 ∧ (l.foldl (lineStep y) acc).2 ≤ y.size ∧ -(60000 * ((n + l.length : Nat) : Int)) ≤ (l.foldl (lineStep y) acc).1 ∧ (l.foldl (lineStep y) acc).1 ≤ 60000 * ((n + l.length : Nat) : Int)
  | [], n, acc, _, h1, h2, h3, h4 => ⟨h1, h2, by simpa using h3, by simpa using h4⟩
  | e :: l, n, acc, h, h1, h2, h3, h4 => by
    obtain ⟨k1, k2⟩ := h e (List.mem_cons_self ..)
    have a1 := (lnF_spec k1).2.1
    have a2 := lnT_spec k2
    have e1 : (lineStep y acc e).1 = acc.1 + (((lnT y e.t.toNat : Nat) : Int) - max ((lnF y e.f.toNat : Nat) : Int) acc.2) := rfl
    have e2 : (lineStep y acc e).2 = ((lnT y e.t.toNat : Nat) : Int) := rfl
    have := lineFold_bd y hy l (n + 1) (lineStep y acc e) (fun d hd => h d (List.mem_cons_of_mem _ hd)) (by rw [e2]; omega) (by rw [e2]; omega) (by rw [e1]; omega) (by rw [e1]; omega)
    simp only [List.foldl_cons, List.length_cons]
    rw [show n + (l.length + 1) = n + 1 + l.length by omega]
    exact this
theorem lineF_bd (y : ByteArray) (hy : y.size ≤ 60000) (l : List Ed) (h : ∀ e ∈ l, e.f.toNat ≤ y.size ∧ e.t.toNat ≤ y.size) :
    0 ≤ (lineF y l).2 ∧ (lineF y l).2 ≤ y.size ∧ -(60000 * (l.length : Int)) ≤ (lineF y l).1 ∧ (lineF y l).1 ≤ 60000 * (l.length : Int) := by
  have := lineFold_bd y hy l 0 (0, 0) h (by simp) (by simp) (by simp) (by simp)
  simpa [lineF] using this
theorem rising_ends {n : Int} : ∀ {l : List Ed} {last : Int}, rising n last l = true → 0 ≤ last → ∀ e ∈ l, 0 ≤ e.f ∧ e.f ≤ e.t ∧ e.t ≤ n
  | [], _, _, _, e, he => by cases he
  | d :: l, last, h, h0, e, he => by
    rw [rising_cons] at h
    obtain ⟨h1, h2, h3, h4, h5⟩ := h
    rcases List.mem_cons.1 he with rfl | he
    · exact ⟨by omega, by omega, by omega⟩
    · exact rising_ends h5 (by omega) e he
end Go.Proofs.YtkdnacniligjjaaDoor

namespace Go.Proofs.YtkdnacniligjjaaDoor
set_option linter.unusedVariables false
set_option linter.unusedSimpArgs false
open Go.RowKit

theorem ret_ie {a b : Int} {k : Int} (h1 : a = b) : Ending.returned (.tuple #[.int .i64 a, .int .i64 k]) = .returned (.tuple #[.int .i64 b, .int .i64 k]) := by rw [h1]

set_option maxRecDepth 100000 in
set_option maxHeartbeats 1000000 in
theorem Line_no (c ce : Nat) (A Ae : Option Addr) (l : List Tok) (es : List Ed) (w : World) (hl : l.length ≤ 60000) (hsz : ∀ p ∈ l, p.2.size ≤ 60000) (hes : Small es) (hT : Tabs w) (hE : TksV w A l) (hEe : EdsV w Ae es) (hno : (applyT l es).2.2 ≠ 0) :
    Calls Tryd.prog 36 #[.slice A l.length c, .slice Ae es.length ce] w fun e w' => e = .returned (.tuple #[.int .i64 0, .int .i64 (applyT l es).2.2]) ∧ Below w.heap.size w w' := by
  have hAp := apply_any c ce A Ae l es w hl hsz hes hT hE hEe
  generalize applyT l es = r at hAp hno
  obtain ⟨x, y, k⟩ := r
  simp only at hAp hno
  have HAp := Lib.hid hAp
  have q1 : (k != 0) = true := by simp [hno]
  clear hAp hE hEe hT hsz hes
  go_enter Tryd.func36, Tryd.ntmps36
  go_wp2_with fail
  refine HAp.out.mono ?_
  rintro e w1 ⟨rfl, hb1⟩
  go_wp2_with fail
  go_ret2
  exact ⟨rfl, hb1⟩

set_option maxRecDepth 100000 in
set_option maxHeartbeats 4000000 in
theorem Line_ok (c ce : Nat) (A Ae : Option Addr) (l : List Tok) (es : List Ed) (t : ByteArray) (w : World) (hl : l.length ≤ 60000) (hsz : ∀ p ∈ l, p.2.size ≤ 60000) (hes : Small es) (hT : Tabs w) (hE : TksV w A l) (hEe : EdsV w Ae es) (hap : applyT l es = (t, applyB t es, 0)) (hck : checkE t.size es = 0) :
    Calls Tryd.prog 36 #[.slice A l.length c, .slice Ae es.length ce] w fun e w' => e = .returned (.tuple #[.int .i64 (lineF (applyB t es) (invertL t 0 es)).1, .int .i64 0]) ∧ Below w.heap.size w w' := by
  have hAp := apply_any c ce A Ae l es w hl hsz hes hT hE hEe
  rw [hap] at hAp
  simp only at hAp
  obtain ⟨k1, k2, k3, k4⟩ := checkE_ok hck
  have hIn := fun W (hW : EdsV W Ae es) => Invert_own t ce Ae es W hes (by omega) hW
  rw [hck, show invertR t es = invertL t 0 es by unfold invertR; rw [if_pos hck]] at hIn
  have hys : (applyB t es).size ≤ 20000 := by have := applyB_size k3; omega
  have hback := (back_all t es hck).1
  have hri := (checkE_ok hback).2.2.1
  have hil : (invertL t 0 es).length ≤ 100 := by rw [invertL_length]; exact k2
  generalize applyB t es = Y at *
  generalize invertL t 0 es = B at *
  have hends := rising_ends hri (Int.le_refl 0)
  have hbd : ∀ k, 0 ≤ (lineF Y (B.take k)).2 ∧ (lineF Y (B.take k)).2 ≤ Y.size ∧ -(60000 * (100 : Int)) ≤ (lineF Y (B.take k)).1 ∧ (lineF Y (B.take k)).1 ≤ 60000 * (100 : Int) := by
    intro k
    have := lineF_bd Y (by omega) (B.take k) (fun e he => by
      have := hends e (List.mem_of_mem_take he)
      omega)
    rw [List.length_take] at this
    omega
  have HAp := Lib.hid hAp
  have HIn := Lib.hid hIn
  have HE := Lib.hid hEe
  have HBd := Lib.hid hbd
  have HRi := Lib.hid hri
  clear hAp hIn hE hEe hT hsz hes hap hck k1 k2 k3 k4 hback hends hbd hri
  go_enter Tryd.func36, Tryd.ntmps36
  go_wp2_with fail
  refine HAp.out.mono ?_
  rintro e w1 ⟨rfl, hb1⟩
  go_wp2_with fail
  refine (HIn.out w1 (HE.out.below hb1)).mono ?_
  rintro e w2 ⟨v2, rfl, ho2, hb2⟩
  obtain ⟨A2, c2, rfl, hE2, _⟩ := EdsV.of_own ho2
  have HE2 := Lib.hid hE2
  have HB2 := Lib.hid (hb1.trans (hb2.mono hb1.size))
  clear ho2 hE2 hb1 hb2
  go_wp2_with fail
  go_loopw [10, 11, 36] (fun cnt done i wr => ∃ (k : Nat), k ≤ B.length ∧ i = .int .i64 k ∧ cnt = .int .i64 (lineF Y (B.take k)).1 ∧ done = .int .i64 (lineF Y (B.take k)).2 ∧ Below w2.heap.size w2 wr) (fun _ _ i _ => B.length - (intOf i).toNat)
  case atStart => exact ⟨0, by omega, rfl, rfl, rfl, Below.refl _ _⟩
  case round =>
    obtain ⟨k, hk, rfl, rfl, rfl, hB⟩ := hrel
    have hbk := HBd.out k
    by_cases hlt : k < B.length
    · have hrg := rising_get HRi.out hlt
      have hst := lineF_take (y := Y) hlt
      obtain ⟨be, oe, x, y, sx, rfl, hbe, c1, c2, c3, hek⟩ := (HE2.out.below hB).getN hlt (by omega) (by omega)
      rw [hek] at hrg hst
      simp only at hrg
      have hsr := hB.size
      obtain ⟨w3, hw3⟩ : ∃ w3, w3 = wr.alloc (.cells #[.int .i64 (x : Int), .int .i64 (y : Int), .string sx] 47) := ⟨_, rfl⟩
      have hB3 : Below w2.heap.size w2 w3 := by rw [hw3]; exact hB.alloc hsr _
      have h33 : w3.heap[wr.heap.size]? = some (.cells #[.int .i64 (x : Int), .int .i64 (y : Int), .string sx] 47 (0, 0)) := by rw [hw3]; exact heap_alloc_new wr _
      have n0 : w3.cell? ⟨wr.heap.size, 0, none⟩ = some (.int .i64 (x : Int)) := Lib.cell_of_heap h33 0
      have n1 : w3.cell? ⟨wr.heap.size, 1, none⟩ = some (.int .i64 (y : Int)) := Lib.cell_of_heap h33 1
      have hln := linesOf_any Y x y w3 (by omega) (by omega) (by omega)
      have l1 := (lnF_spec (s := Y) (f := x) (by omega)).2.1
      have l2 := lnT_spec (s := Y) (t := y) (by omega)
      obtain ⟨l2a, l2b, _⟩ := l2
      have hstep : lineStep Y (lineF Y (B.take k)) ⟨x, y, sx⟩ = ((lineF Y (B.take k)).1 + (((lnT Y y : Nat) : Int) - max ((lnF Y x : Nat) : Int) (lineF Y (B.take k)).2), ((lnT Y y : Nat) : Int)) := rfl
      rw [hstep] at hst
      generalize lineF Y (B.take k) = p at *
      obtain ⟨cnt, done⟩ := p
      simp only at hbk hst ⊢
      generalize lnF Y x = F at *
      generalize lnT Y y = T at *
      have hxy : x ≤ y := by omega
      have HLn := Lib.hid hln
      have HW3 := Lib.hid hw3
      have HSt := Lib.hid hst
      have HB := Lib.hid hB
      clear hln hw3 h33 hstep hek hst hB hrg
      go_wp2_with fail
      rw [← HW3.out]
      refine HLn.out.mono ?_
      rintro e w4 ⟨rfl, hb4⟩
      have hb34 : Below w2.heap.size w2 w4 := (HB.out.alloc HB.out.size _).trans (by rw [← HW3.out]; exact hb4.mono (by rw [HW3.out]; simp; have := HB.out.size; omega))
      have HB4 := Lib.hid hb34
      clear hb4 hb34 n0 n1
      go_wp2_with fail
      refine ⟨⟨k + 1, by omega, by go_num, by rw [HSt.out], by rw [HSt.out], HB4.out.alloc HB4.out.size _⟩, by simp [intOf]; omega⟩
    · have hke : k = B.length := by omega
      subst hke
      have hres := congrArg Prod.fst (congrArg (lineF Y) (List.take_length (l := B)))
      go_wp2_with fail
      go_ret2
      exact ⟨ret_ie hres, HB2.out.trans (hB.mono HB2.out.size)⟩
end Go.Proofs.YtkdnacniligjjaaDoor

namespace Go.Proofs.YtkdnacniligjjaaDoor
set_option linter.unusedVariables false
set_option linter.unusedSimpArgs false

theorem relexF_end (s : ByteArray) : ∀ (ps : List PG) (d : Nat), Chain s d ps → ∃ M, relexF s d ps = M ++ (lexL s).drop ((ps.getLast?.map (·.2.1)).getD d) ∧ d ≤ (ps.getLast?.map (·.2.1)).getD d ∧ (ps.getLast?.map (·.2.1)).getD d ≤ (lexL s).length
  | [], d, h => ⟨[], by simp [relexF], Nat.le_refl _, h⟩
  | p :: ps, d, h => by
    obtain ⟨h1, h2, h3, h4⟩ := h
    obtain ⟨M, i1, i2, i3⟩ := relexF_end s ps p.2.1 h4
    have hab := h2.ab
    have e : (((p :: ps).getLast?.map (·.2.1)).getD d : Nat) = (ps.getLast?.map (·.2.1)).getD p.2.1 := by
      cases ps with
      | nil => simp
      | cons q ps => simp [List.getLast?_cons]
    rw [e]
    refine ⟨((lexL s).take p.1).drop d ++ (lx (editedL s (posB (lexL s) p.2.1) (posB (lexL s) p.1) p.2.2) ++ M), ?_, by omega, i3⟩
    rw [relexF, i1]
    simp [List.append_assoc]
theorem over_ok (s : ByteArray) (es : List Ed) (hck : checkE s.size es = 0) (hne : 0 < es.length) :
    firstG s es ≤ doneG s es ∧ doneG s es ≤ (lexL s).length ∧ ∃ M, lexL (applyB s es) = (lexL s).take (firstG s es) ++ (M ++ (lexL s).drop (doneG s es)) := by
  obtain ⟨k1, k2, k3, k4⟩ := checkE_ok hck
  obtain ⟨g1, g2⟩ := groups_ok s es.length es rfl k3
  have g4 : Chain s 0 (groups s es) := by
    rcases g2 with h | ⟨init, a, b, g, h, _, h2⟩
    · rw [h] at g1
      have : es = [] := g1.symm
      rw [this] at hne; simp at hne
    · rw [h]; exact h2
  have g7 := relex_right s (groups s es) 0 g4
  rw [g1] at g7
  have g8 : relexF s 0 (groups s es) = lexL (applyB s es) := by rw [← g7]; rfl
  have hg : groups s es ≠ [] := by
    intro h
    rw [h] at g1
    have : es = [] := g1.symm
    rw [this] at hne; simp at hne
  unfold firstG doneG
  generalize groups s es = G at *
  cases G with
  | nil => exact absurd rfl hg
  | cons p ps =>
    obtain ⟨h1, h2, h3, h4⟩ := g4
    obtain ⟨M, i1, i2, i3⟩ := relexF_end s ps p.2.1 h4
    have hab := h2.ab
    have e : (((p :: ps).getLast?.map (·.2.1)).getD 0 : Nat) = (ps.getLast?.map (·.2.1)).getD p.2.1 := by
      cases ps with
      | nil => simp
      | cons q ps => simp [List.getLast?_cons]
    have e2 : (((p :: ps).head?.map (·.1)).getD 0 : Nat) = p.1 := rfl
    rw [e, e2]
    refine ⟨by omega, i3, lx (editedL s (posB (lexL s) p.2.1) (posB (lexL s) p.1) p.2.2) ++ M, ?_⟩
    rw [← g8, relexF, i1]
    simp [List.append_assoc]
theorem firstG_one (s : ByteArray) (e : Ed) : firstG s [e] = metF s (begL (lexL s)) e.f.toNat ∧ doneG s [e] = metT s (begL (lexL s)) e.t.toNat := ⟨rfl, rfl⟩
end Go.Proofs.YtkdnacniligjjaaDoor

namespace Go.Proofs.YtkdnacniligjjaaDoor
set_option linter.unusedVariables false
set_option linter.unusedSimpArgs false
open Go.RowKit

set_option maxRecDepth 100000 in
set_option maxHeartbeats 2000000 in
theorem RLex_own (s : ByteArray) (w : World) (hs : s.size ≤ 60000) :
    Calls Tryd.prog 28 #[.string s] w fun e w' => ∃ v, e = .returned v ∧ w'.ownsRow w.heap.size 24 2 v (lexL s).length (tkCells (lexL s)) ∧ Below w.heap.size w w' := by
  obtain ⟨i0, hi0, hz0, hz1, hz2⟩ := info_parts infoTok
  go_enter Tryd.func28, Tryd.ntmps28
  go_wp2_with fail
  go_loopw [3, 4, 5] (fun v i _ wr => ∃ (k : Nat) (pre : List Tok), k ≤ s.size ∧ i = .int .i64 k ∧ pre ++ lexL (s.extract k s.size) = lexL s ∧ pre.length ≤ k ∧ wr.ownsRow w.heap.size 24 2 v pre.length (tkCells pre) ∧ Below w.heap.size w wr) (fun _ i _ _ => s.size - (intOf i).toNat)
  case atStart => exact ⟨0, [], Nat.zero_le _, rfl, by rw [show s.extract 0 s.size = s from all_head s]; rfl, by simp, World.ownsRow_nil _ _ _ _, Below.refl _ _⟩
  case round =>
    obtain ⟨k, pre, hk, rfl, he, hl, hown, hB⟩ := hrel
    have hk0 : (0 : Int) ≤ (k : Int) := by omega
    by_cases hlt : k < s.size
    · have hks : (k : Int) < (s.size : Int) := by omega
      have hz := tail_size s k
      have hnx := Next_any s k wr hs hlt
      obtain ⟨f1, f2⟩ := firstP_le (s.extract k s.size) (by omega)
      rw [lexL_step (by omega), tail_tail] at he
      have hxs : ((s.extract k s.size).extract 0 (firstP (s.extract k s.size)).2).size = (firstP (s.extract k s.size)).2 := by rw [ByteArray.size_extract]; omega
      unfold nextR at hnx
      obtain ⟨⟨kd, n⟩, hp⟩ : ∃ p, p = firstP (s.extract k s.size) := ⟨_, rfl⟩
      rw [← hp] at hnx f1 f2 he hxs
      simp only at hnx f1 f2 he hxs
      obtain ⟨x, hx⟩ : ∃ x, x = (s.extract k s.size).extract 0 n := ⟨_, rfl⟩
      rw [← hx] at hnx he hxs
      have Hnx := Lib.hid hnx
      have He := Lib.hid he
      have HX := Lib.hid hxs
      have hxz : (x.size : Int) ≤ (s.size : Int) := by omega
      have hxk : k + x.size ≤ s.size := by omega
      have hx1 : 1 ≤ x.size := by omega
      have hb1 := hB.size
      clear hnx he hp hx hxs
      go_wp2_with fail
      refine Hnx.out.mono ?_
      rintro e w2 ⟨rfl, hb2⟩
      have hown2 := ownsRow_belowT hown hb2
      have hB2 := hB.trans (hb2.mono hb1)
      have hb3 := hB2.size
      have hblk : ((w2.alloc (.cells #[.int .i64 kd, .string x] 24)).alloc (.cells #[.int .i64 kd, .string x] 24)).heap[w2.heap.size]? = some (.cells #[.int .i64 kd, .string x] 24 (0, 0)) := (Below.heap_alloc _ _ _ (by simp)).trans (heap_alloc_new w2 _)
      have HBlk := Lib.hid hblk
      have hbw : Below w.heap.size w ((w2.alloc (.cells #[.int .i64 kd, .string x] 24)).alloc (.cells #[.int .i64 kd, .string x] 24)) := (hB2.alloc hb3 _).alloc (by simp; omega) _
      have HBw := Lib.hid hbw
      clear hblk hbw
      go_wp2_with (at_builtin; refine wpList_append_own _ rfl _ _ 22 rfl w.heap.size 24 i0 _ 2 24 Tryd.underlying22 hi0 hz0 hz1 hz2 rfl (by decide) _ _ _ rfl ((hown2.alloc _).alloc _) ⟨w2.heap.size + 1, 0, none⟩ 1 1 [.int .i64 kd, .string x] rfl rfl ?c1 ?c2 ?c3 ?c4 ?c5 ?_)
      case c1 => exact World.news_of_block (heap_alloc2T w2 _ _)
      case c2 => simp [Value.oneCell']
      case c3 => unfold maxLen; omega
      case c4 => omega
      case c5 => simp; omega
      intro v' w4 hown4 hgrow _
      have hB4 := HBw.out.grown hgrow (by simp; omega) (fun g hg => (hown2.lt g hg).1)
      have hb4 : w4.heap[w2.heap.size]? = some (.cells #[.int .i64 kd, .string x] 24 (0, 0)) := by
        rw [hgrow.block w2.heap.size (by simp; omega) (fun e => by have := (hown2.lt _ e.symm).2; omega)]
        exact HBlk.out
      have m1 : w4.cell? ⟨w2.heap.size, 1, none⟩ = some (.string x) := Lib.cell_of_heap hb4 1
      rw [← tkCells_append pre (kd, x)] at hown4
      have Ho4 := Lib.hid hown4
      have HB4 := Lib.hid hB4
      have sk : IntKind.i64.wrap ((k : Int) + (x.size : Int)) = ((k + x.size : Nat) : Int) := by rw [IntWalk.i64_in _ (by omega)]; omega
      clear hown hown2 hown4 hB hB2 hB4 hgrow hb4
      go_wp2_with fail
      refine ⟨⟨k + x.size, pre ++ [(kd, x)], by omega, by go_num, ?_, by simp; omega, ?_, HB4.out⟩, by simp only [intOf]; omega⟩
      · rw [List.append_assoc, HX.out]; exact He.out
      · have h := Ho4.out
        rw [show (pre ++ [((kd, x) : Tok)]).length = pre.length + 1 by simp]
        exact h
    · have hex : (s.extract k s.size).size = 0 := by rw [tail_size]; omega
      rw [lexL_nil hex, List.append_nil] at he
      subst he
      have q : decide ((k : Int) < (s.size : Int)) = false := by simp; omega
      clear hl
      go_wp2_with fail
      go_ret
      exact ⟨_, rfl, hown, hB⟩
end Go.Proofs.YtkdnacniligjjaaDoor
