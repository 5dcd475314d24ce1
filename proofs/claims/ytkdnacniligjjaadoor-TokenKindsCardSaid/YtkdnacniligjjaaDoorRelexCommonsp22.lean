/-
  relex: Relex.
-/
import Derived.Test.YtkdnacniligjjaaDoorRelexCommonsp21
namespace Go.Proofs.YtkdnacniligjjaaDoor
set_option linter.unusedVariables false
set_option linter.unusedSimpArgs false
open Go.RowKit

theorem lexL_smallR : ∀ (n : Nat) (s : ByteArray), s.size ≤ n → ∀ p ∈ lexL s, p.2.size ≤ s.size
  | 0, s, h, p, hp => by rw [lexL_nil (by omega)] at hp; cases hp
  | n + 1, s, h, p, hp => by
    by_cases h0 : s.size = 0
    · rw [lexL_nil h0] at hp; cases hp
    · have hle := firstP_le s (by omega)
      have hz := tail_size s (firstP s).2
      rw [lexL_step (by omega)] at hp
      rcases List.mem_cons.1 hp with rfl | hp
      · simp only [ByteArray.size_extract]; omega
      · have := lexL_smallR n _ (by omega) p hp
        omega
theorem toks_own2 {w : World} {base e : Nat} {v : Value} {l : List Tok} (h : w.ownsRow base e 2 v l.length (tkCells l)) : ∃ A c, v = .slice A l.length c ∧ TksV w A l ∧ (A = none → l = [] ∧ c = 0) := by
  obtain ⟨A, c, hv, hT, _, _⟩ := TksV.of_own h
  refine ⟨A, c, hv, hT, fun hA => ?_⟩
  subst hA
  rcases h.2 with ⟨h1, h0⟩ | ⟨g, cap, cur, h1, _⟩
  · rw [hv] at h1
    injection h1 with _ _ h1
    exact ⟨List.eq_nil_of_length_eq_zero h0, h1⟩
  · rw [hv] at h1
    cases h1
theorem tkCells_app (a b : List Tok) : tkCells (a ++ b) = tkCells a ++ tkCells b := by simp [tkCells]
theorem moveErr_ok {l : List Ed} {n o : Nat} (h1 : l.length ≤ 100) (h2 : rising (n : Int) 0 l = true) (hn : n ≤ 20000) (ho : o ≤ n) : moveErr l (o : Int) = 0 := by
  have h3 := rising_more (n := (n : Int)) (m := 20000) (by omega) h2
  unfold moveErr
  rw [if_neg (by omega), if_neg]
  rintro (h | h)
  · rw [h3] at h; cases h
  · unfold isSpanB at h
    have := of_decide_eq_false h
    omega
theorem grown_block {w w' : World} {v : Value} {base e size n : Nat} {xs : List Value} {k : Nat} {W : World} (hg : w.grownBy w' v.ownBlock) (ho : W.ownsRow base e size v n xs) (hk : k < w.heap.size) (hW : W.heap.size ≤ k) : w'.heap[k]? = w.heap[k]? :=
  hg.block k hk (fun h => by
    have := ho.lt k h.symm
    omega)
theorem own_block_ne {w : World} {base e e' size n k : Nat} {v : Value} {xs : List Value} {cs : Array Value} {fr : Nat × Nat} (h : w.ownsRow base e size v n xs) (hk : w.heap[k]? = some (.cells cs e' fr)) (hne : e ≠ e') : ∀ g, v.ownBlock = some g → g ≠ k := by
  intro g hg hgk
  subst hgk
  rcases h.2 with ⟨h1, _⟩ | ⟨g', cap, cur, h1, _, hg', _⟩
  · rw [h1] at hg; cases hg
  · rw [h1] at hg
    have : g' = g := by simpa [Value.ownBlock] using hg
    subst this
    rw [hk] at hg'
    injection hg' with hg'
    injection hg' with _ h2 _
    exact hne h2.symm
theorem textR_lex {s : ByteArray} (hs : s.size ≤ 20000) : textR (lexL s) = (s, 0) := by
  have h1 := catL_lex s.size s (Nat.le_refl _)
  have h2 : (lexL s).length ≤ s.size := lexL_length s.size s (Nat.le_refl _)
  unfold textR
  rw [if_neg (by omega), h1, if_neg (by rw [byt_length]; omega), mkB_byt, if_pos rfl]
theorem partsL_len (s : ByteArray) (bs : List Nat) (es : List Ed) : (partsL s bs es).length ≤ es.length := by
  unfold partsL
  suffices h : ∀ (es : List Ed) (acc : List (Nat × Nat)), (es.foldl (fun acc e => pushP acc (metP s bs e)) acc).length ≤ acc.length + es.length by
    have := h es []
    simpa using this
  intro es
  induction es with
  | nil => intro acc; simp
  | cons e es ih =>
    intro acc
    have h1 := ih (pushP acc (metP s bs e))
    have h2 := pushP_len acc (metP s bs e)
    simp only [List.foldl_cons, List.length_cons]
    omega
def firstG (s : ByteArray) (es : List Ed) : Nat := ((groups s es).head?.map (·.1)).getD 0
def doneG (s : ByteArray) (es : List Ed) : Nat := ((groups s es).getLast?.map (·.2.1)).getD 0

set_option maxRecDepth 100000 in
set_option maxHeartbeats 4000000 in
theorem Relex_ok (c ce : Nat) (A Ae : Option Addr) (s : ByteArray) (es : List Ed) (w : World) (hs : s.size ≤ 20000) (hck : checkE s.size es = 0) (hne : 0 < es.length) (hes : Small es) (hT : Tabs w) (hc : (lexL s).length ≤ c) (hA : A = none → lexL s = [] ∧ c = 0) (hE : TksV w A (lexL s)) (hEe : EdsV w Ae es) :
    Calls Tryd.prog 25 #[.slice A (lexL s).length c, .slice Ae es.length ce] w fun e w' => ∃ v, e = .returned (.tuple #[v, .int .i64 (firstG s es : Nat), .int .i64 ((((lexL s).length : Nat) : Int) - (doneG s es : Nat)), .int .i64 0]) ∧ w'.ownsRow w.heap.size 24 2 v (lexL (applyB s es)).length (tkCells (lexL (applyB s es))) ∧ Below w.heap.size w w' := by
  obtain ⟨i0, hi0, hz0, hz1, hz2⟩ := info_parts infoTok
  have hlc : (lexL s).length ≤ s.size := lexL_length s.size s (Nat.le_refl _)
  have hap : applyT (lexL s) es = (s, applyB s es, 0) := by
    unfold applyT applyR
    rw [textR_lex hs]
    simp [hck]
  have hAp := apply_any c ce A Ae (lexL s) es w (by omega) (fun p hp => by have := lexL_smallR s.size s (Nat.le_refl _) p hp; omega) hes hT hE hEe
  rw [hap] at hAp
  simp only at hAp
  have hNs := fun W (hW : TksV W A (lexL s)) => newSource_any s c A (lexL s) W (by omega) (by rw [catL_lex s.size s (Nat.le_refl _), byt_length]; omega) hW
  obtain ⟨k1, k2, k3, k4⟩ := checkE_ok hck
  obtain ⟨g1, g2⟩ := groups_ok s es.length es rfl k3
  have g3 := groups_span s es
  have g4 : Chain s 0 (groups s es) ∧ 0 < (groups s es).length := by
    rcases g2 with h | ⟨init, a, b, g, h, _, h2⟩
    · rw [h] at g1
      have : es = [] := g1.symm
      rw [this] at hne; simp at hne
    · rw [h]
      exact ⟨h2, by simp⟩
  obtain ⟨g5, g6⟩ := g4
  have g7 := relex_right s (groups s es) 0 g5
  rw [g1] at g7
  have g8 : relexF s 0 (groups s es) = lexL (applyB s es) := by rw [← g7]; rfl
  have hGn : (groups s es).length ≤ 100 := by
    have h1 : (groups s es).length = (partsL s (begL (lexL s)) es).length := by rw [← g3, List.length_map]
    have h2 := partsL_len s (begL (lexL s)) es
    omega
  have hfs : (applyB s es).size ≤ 20000 := by
    have := applyB_size k3
    omega
  obtain ⟨fg, hfg⟩ : ∃ n, n = firstG s es := ⟨_, rfl⟩
  obtain ⟨dg, hdg⟩ : ∃ n, n = doneG s es := ⟨_, rfl⟩
  rw [← hfg, ← hdg]
  unfold firstG at hfg
  unfold doneG at hdg
  obtain ⟨L, hL⟩ : ∃ L, L = lexL s := ⟨_, rfl⟩
  obtain ⟨Y, hY⟩ : ∃ Y, Y = applyB s es := ⟨_, rfl⟩
  obtain ⟨G, hG⟩ : ∃ G, G = groups s es := ⟨_, rfl⟩
  rw [← hY] at hap hAp g8 hfs
  rw [← hG] at g1 g3 g5 g6 g8 hGn hfg hdg
  rw [← hL] at hlc hap hAp hNs hc hA hE g3
  rw [← hL, ← hY]
  have HAp := Lib.hid hAp
  have HNs := Lib.hid hNs
  have HL := Lib.hid hL
  have HE := Lib.hid hE
  have HEe := Lib.hid hEe
  have HT := Lib.hid hT
  have HS := Lib.hid hes
  have HC := Lib.hid hck
  have HA := Lib.hid hA
  have qz : (es.length : Int) ≠ 0 := by omega
  have q0 : ((es.length : Int) == 0) = false := beq_false_of_ne qz
  have HY := Lib.hid hY
  have HG := Lib.hid hG
  have HAll := Lib.hid g1
  have HSpan := Lib.hid g3
  have HCh := Lib.hid g5
  have HRF := Lib.hid g8
  have HFg := Lib.hid hfg
  have HDg := Lib.hid hdg
  have HK3 := Lib.hid k3
  have hPl : (partsL s (begL L) es).length = G.length := by rw [← g3, List.length_map]
  have HPl := Lib.hid hPl
  have hec : es.length ≤ 100 := k2
  clear hap hAp hNs hL hE hEe hT hes hck hA hY hG g1 g2 g3 g5 g7 g8 hfg hdg k1 k2 k3 k4 hPl
  go_enter Tryd.func25, Tryd.ntmps25
  go_wp2_with fail
  refine HAp.out.mono ?_
  rintro e w1 ⟨rfl, hb1⟩
  have HE1 := Lib.hid (HE.out.below hb1)
  go_wp2_with fail
  refine (HNs.out _ HE1.out).mono ?_
  rintro e w2 ⟨A', c', rfl, hI2, hb2⟩
  go_wp2_with fail
  obtain ⟨w3, hw3⟩ : ∃ w3, w3 = w2.alloc (.cells #[.string s, .slice A' (L.length + 1) c'] 76) := ⟨_, rfl⟩
  have hb23 : Below w2.heap.size w2 w3 := by rw [hw3]; exact (Below.refl _ _).alloc (Nat.le_refl _) _
  have hb13 : Below w1.heap.size w1 w3 := hb2.trans (hb23.mono hb2.size)
  have hB3 : Below w.heap.size w w3 := hb1.trans (hb13.mono hb1.size)
  have h33 : w3.heap[w2.heap.size]? = some (.cells #[.string s, .slice A' (L.length + 1) c'] 76 (0, 0)) := by rw [hw3]; exact heap_alloc_new w2 _
  have hlt3 : w2.heap.size < w3.heap.size := by rw [hw3]; simp
  have hpo := parts_own s c' ce A' Ae (begL L) es w3 (by omega) (by rw [begL_length]; omega) (begL_rise L) (hI2.below hb23) (by omega) HK3.out (HEe.out.below hB3)
  rw [begL_length, HPl.out] at hpo
  have hI3 := Lib.hid (hI2.below hb23)
  rw [← hw3]
  have HB3 := Lib.hid hB3
  have H33 := Lib.hid h33
  clear hw3 hb23 hb13 hB3 h33 hI2 hb1 hb2 HE1
  refine hpo.mono ?_
  clear hpo
  rintro e w4 ⟨v, rfl, hown4, hb4⟩
  have hB4 := HB3.out.trans (hb4.mono HB3.out.size)
  have h44 := (hb4.block w2.heap.size hlt3).trans H33.out
  have hlt4 : w2.heap.size < w4.heap.size := Nat.lt_of_lt_of_le hlt3 hb4.size
  obtain ⟨ao, cap, rfl, hao⟩ := own_shapeP hown4
  obtain ⟨gp, rfl, hgp1, hgp2⟩ := hao g6
  have hcells : ∀ (k : Nat) (p : PG), G[k]? = some p → w4.cell? ⟨gp, k * 2, none⟩ = some (.int .i64 ((p.1 : Nat) : Int)) ∧ w4.cell? ⟨gp, k * 2 + 1, none⟩ = some (.int .i64 ((p.2.1 : Nat) : Int)) := fun k p hp => by
    have hk : k < G.length := by
      rcases Nat.lt_or_ge k G.length with h | h
      · exact h
      · rw [List.getElem?_eq_none h] at hp; cases hp
    have h1 := ptCells_get (partsL s (begL L) es) k (spanG p) (by rw [← HSpan.out, List.getElem?_map, hp]; rfl)
    exact ⟨(hown4.cellAt (k * 2) (by omega)).trans h1.1, (hown4.cellAt (k * 2 + 1) (by omega)).trans h1.2⟩
  have HCells := Lib.hid hcells
  have HB4 := Lib.hid hB4
  have H44 := Lib.hid h44
  have HI4 := Lib.hid (hI3.out.below hb4)
  have HE4 := Lib.hid (HE.out.below hB4)
  have HEe4 := Lib.hid (HEe.out.below hB4)
  have HT4 := Lib.hid (HT.out.below hB4)
  clear hcells hB4 h44 hown4 hb4 hao hI3
  go_wp2_with fail
  go_loopw [13, 14, 16, 42] (fun made done _ i wr => ∃ (k d : Nat) (acc : List Tok) (v0 : Value), v0 = made ∧ k ≤ G.length ∧ i = .int .i64 k ∧ done = .int .i64 d ∧ Chain s d (G.drop k) ∧ acc ++ relexF s d (G.drop k) = lexL Y ∧ (k = 0 ∨ ∃ p, G[k - 1]? = some p ∧ d = p.2.1) ∧ wr.ownsRow w4.heap.size 24 2 v0 acc.length (tkCells acc) ∧ Below w4.heap.size w4 wr) (fun _ _ _ i _ => G.length - (intOf i).toNat)
  case atStart => exact ⟨0, 0, [], _, rfl, Nat.zero_le _, rfl, rfl, HCh.out, by rw [List.drop_zero, HRF.out]; rfl, .inl rfl, World.ownsRow_nil _ _ _ _, Below.refl _ _⟩
  case round =>
    obtain ⟨k, d, acc, v, rfl, hk, rfl, rfl, hch, hrf, hd, hown, hB⟩ := hrel
    have hk0 : (0 : Int) ≤ (k : Int) := by omega
    have hsr := hB.size
    by_cases hlt : k < G.length
    · have hk1 : (k : Int) < (G.length : Int) := by omega
      obtain ⟨a, b, g, hgk⟩ : ∃ a b g, G[k] = (a, b, g) := ⟨_, _, _, rfl⟩
      have hget : G[k]? = some (a, b, g) := by rw [List.getElem?_eq_getElem hlt, hgk]
      have hdr : G.drop k = (a, b, g) :: G.drop (k + 1) := by rw [List.drop_eq_getElem_cons hlt, hgk]
      rw [hdr] at hch hrf
      obtain ⟨x1, x2, x3, x4⟩ := hch
      simp only at x1 x2 x3 x4
      have hsplit : G = G.take k ++ (a, b, g) :: G.drop (k + 1) := by rw [← hdr, List.take_append_drop]
      have hpc := part_cut s (pre := G.take k) (post := G.drop (k + 1)) (a := a) (b := b) (g := g) (by rw [← hsplit]; exact HCh.out)
      rw [← hsplit, HAll.out, ← HL.out, ← HY.out] at hpc
      obtain ⟨M, N, hM, hN, hMN, hNs, hex⟩ := hpc
      have hab := x2.ab
      have hbl := x2.bl
      rw [← HL.out] at hbl
      have hda := x1
      obtain ⟨m0, m1⟩ := HCells.out k _ hget
      have n0 := (hB.cell (p := ⟨gp, k * 2, none⟩) hgp2).trans m0
      have n1 := (hB.cell (p := ⟨gp, k * 2 + 1, none⟩) hgp2).trans m1
      simp only at n0 n1
      obtain ⟨w5, hw5⟩ : ∃ w5, w5 = wr.alloc (.cells #[.int .i64 (a : Int), .int .i64 (b : Int)] 81) := ⟨_, rfl⟩
      have hB5 : Below w4.heap.size w4 w5 := by rw [hw5]; exact hB.alloc hsr _
      have h55 : w5.heap[wr.heap.size]? = some (.cells #[.int .i64 (a : Int), .int .i64 (b : Int)] 81 (0, 0)) := by rw [hw5]; exact heap_alloc_new wr _
      have hown5 : w5.ownsRow w4.heap.size 24 2 v acc.length (tkCells acc) := by rw [hw5]; exact hown.alloc _
      have hs5 : wr.heap.size < w5.heap.size := by rw [hw5]; simp
      have p0 : w5.cell? ⟨wr.heap.size, 0, none⟩ = some (.int .i64 (a : Int)) := Lib.cell_of_heap h55 0
      have HW5 := Lib.hid hw5
      have HX2 := Lib.hid x2
      have HX4 := Lib.hid x4
      have HRf := Lib.hid hrf
      have H55 := Lib.hid h55
      have b0 : (0 : Int) ≤ (a : Int) := by omega
      have b1 : (a : Int) ≤ (c : Int) := by omega
      have b2 : (d : Int) ≤ (a : Int) := by omega
      have b3 : (0 : Int) ≤ (d : Int) := by omega
      obtain ⟨A1, hq1, hA1, hT1⟩ := slice_toks (A := A) (L := L) (d := d) (a := a) (c := c) hda (by omega) hc HA.out
      obtain ⟨sg, hsg⟩ : ∃ sg, sg = (L.take a).drop d := ⟨_, rfl⟩
      rw [← hsg] at hA1 hT1
      have hsl : a - d = sg.length := by rw [hsg, List.length_drop, List.length_take]; omega
      rw [hsl] at hq1
      have hacl : acc.length ≤ (lexL Y).length := by rw [← hrf, List.length_append]; omega
      have hyl := lexL_length Y.size Y (Nat.le_refl _)
      have hsgl : sg.length ≤ 20000 := by omega
      have hal2 : acc.length ≤ 20000 := by omega
      have HD := Lib.hid (show d ≤ a ∧ a ≤ b ∧ b ≤ L.length from ⟨hda, hab, hbl⟩)
      have hpa : posB L a ≤ s.size := by rw [HL.out]; exact posB_max s a
      have hpb : posB L b ≤ s.size := by rw [HL.out]; exact posB_max s b
      have HBy : ∀ W, IntsV W A' (begL L) → Calls Tryd.prog 55 #[.agg #[.string s, .slice A' (L.length + 1) c'], .agg #[.int .i64 (a : Int), .int .i64 (b : Int)]] W fun e w' => e = .returned (.agg #[.int .i64 ((posB L a : Nat) : Int), .int .i64 ((posB L b : Nat) : Int)]) ∧ Below W.heap.size W w' := fun W hW => by
        have := bytes_any s c' A' (begL L) a b W (by rw [begL_length]; omega) (by rw [begL_length]; omega) (by rw [begL_length]; omega) hW
        rw [begL_get, begL_get, begL_length] at this
        exact this
      have HMv : ∀ W, EdsV W Ae es → Calls Tryd.prog 54 #[.agg #[.int .i64 ((posB L a : Nat) : Int), .int .i64 ((posB L b : Nat) : Int)], .slice Ae es.length ce] W fun e w' => e = .returned (.agg #[.int .i64 (M : Int), .int .i64 (N : Int)]) ∧ Below W.heap.size W w' := fun W hW => by
        have := moved_any ((posB L a : Nat) : Int) ((posB L b : Nat) : Int) ce Ae es W HS.out hW
        rw [moveRes_ok (moveErr_ok hec HK3.out hs hpa), moveRes_ok (moveErr_ok hec HK3.out hs hpb), hM, hN] at this
        exact this
      obtain ⟨tk, htk⟩ : ∃ tk, tk = lexL (Y.extract M N) := ⟨_, rfl⟩
      have hex2 : tk = lx (editedL s (posB (lexL s) b) (posB (lexL s) a) g) := by rw [htk, hex, HL.out]; rfl
      have hexs : (Y.extract M N).size ≤ 20000 := by rw [ByteArray.size_extract]; omega
      have htl : tk.length ≤ 20000 := by
        have := lexL_length (Y.extract M N).size (Y.extract M N) (Nat.le_refl _)
        rw [htk]; omega
      have HLx : ∀ W, Tabs W → Calls Tryd.prog 53 #[.string Y, .agg #[.int .i64 (M : Int), .int .i64 (N : Int)]] W fun e w' => ∃ v, e = .returned v ∧ w'.ownsRow W.heap.size 24 2 v tk.length (tkCells tk) ∧ Below W.heap.size W w' := fun W hW => by
        have := lex_any Y M N W hMN hNs hexs (by omega) hW
        rw [← htk] at this
        exact this
      have hrf2 : (acc ++ sg ++ tk) ++ relexF s b (G.drop (k + 1)) = lexL Y := by
        rw [← hrf, hsg, hex2, HL.out]
        show _ = acc ++ (((lexL s).take a).drop d ++ (lx (editedL s (posB (lexL s) b) (posB (lexL s) a) g) ++ relexF s b (G.drop (k + 1))))
        simp only [List.append_assoc]
      have HBy1 := Lib.hid HBy
      have HMv1 := Lib.hid HMv
      have HLx1 := Lib.hid HLx
      have HRf2 := Lib.hid hrf2
      have HGet := Lib.hid hget
      have HT5 := Lib.hid (hT1 w5 (HE4.out.below hB5))
      have HOwn := Lib.hid hown
      have HAL := Lib.hid (show acc.length ≤ 20000 ∧ sg.length ≤ 20000 ∧ tk.length ≤ 20000 from ⟨hal2, hsgl, htl⟩)
      clear hw5 h55 x1 x2 x3 x4 hsplit hrf m0 m1 HBy HMv HLx hrf2 hget hex hex2 htk hM hN hMN hNs hsg hdr hgk HRf b0 b1 b2 b3 hda hab hbl hd hsl hpa hpb hexs hacl hyl hT1 hown hal2 hsgl htl
      go_wp2_with (at_builtin; rw [← HW5.out]; refine wpList_append_toks _ rfl _ _ 22 rfl w4.heap.size 24 i0 _ 24 Tryd.underlying22 hi0 hz0 hz1 hz2 rfl v acc.length (tkCells acc) rfl hown5 A1 (c - d) sg rfl hA1 HT5.out ?ra1 ?ra2 ?ra3 ?_)
      case ra1 => have := HAL.out; unfold maxLen; omega
      case ra2 => have := HAL.out; omega
      case ra3 => exact hB5.size
      intro v6 w6 hown6 hgrow6
      have hB6 := hB5.grown hgrow6 hB5.size (fun g hg => (hown5.lt g hg).1)
      have hp6 : w6.heap[wr.heap.size]? = some (.cells #[.int .i64 (a : Int), .int .i64 (b : Int)] 81 (0, 0)) := (grown_block hgrow6 HOwn.out hs5 (Nat.le_refl _)).trans H55.out
      have hc6 : w6.heap[w2.heap.size]? = some (.cells #[.string s, .slice A' (L.length + 1) c'] 76 (0, 0)) := (hB6.block w2.heap.size hlt4).trans H44.out
      have e0 : w6.cell? ⟨w2.heap.size, 0, none⟩ = some (.string s) := Lib.cell_of_heap hc6 0
      have e1 : w6.cell? ⟨w2.heap.size, 1, none⟩ = some (.slice A' (L.length + 1) c') := Lib.cell_of_heap hc6 1
      have e2 : w6.cell? ⟨wr.heap.size, 0, none⟩ = some (.int .i64 (a : Int)) := Lib.cell_of_heap hp6 0
      have e3 : w6.cell? ⟨wr.heap.size, 1, none⟩ = some (.int .i64 (b : Int)) := Lib.cell_of_heap hp6 1
      have hsz6 : wr.heap.size < w6.heap.size := Nat.lt_of_lt_of_le hs5 hgrow6.size
      have hBw6 := HB4.out.trans (hB6.mono HB4.out.size)
      have hlen6 : acc.length + sg.length = (acc ++ sg).length := by rw [List.length_append]
      rw [hlen6, ← tkCells_app] at hown6
      have HB6 := Lib.hid hB6
      have HP6 := Lib.hid hp6
      have HO6 := Lib.hid hown6
      clear hgrow6 hp6 hc6 hown5 hB5 hB6 hown6 p0 hA1 hlen6
      go_wp2_with fail
      refine (HBy1.out w6 (HI4.out.below HB6.out)).mono ?_
      rintro e w7 ⟨rfl, hb7⟩
      have hB7 := HB6.out.trans (hb7.mono HB6.out.size)
      have HB7 := Lib.hid hB7
      have HO7 := Lib.hid (ownsRow_belowT HO6.out hb7)
      have HP7 := Lib.hid ((hb7.block wr.heap.size hsz6).trans HP6.out)
      have hsz7 : wr.heap.size < w7.heap.size := Nat.lt_of_lt_of_le hsz6 hb7.size
      clear hb7 hB7
      go_wp2_with fail
      refine (HMv1.out w7 (HEe4.out.below HB7.out)).mono ?_
      rintro e w8 ⟨rfl, hb8⟩
      have hB8 := HB7.out.trans (hb8.mono HB7.out.size)
      have HB8 := Lib.hid hB8
      have HO8 := Lib.hid (ownsRow_belowT HO7.out hb8)
      have HP8 := Lib.hid ((hb8.block wr.heap.size hsz7).trans HP7.out)
      have hsz8 : wr.heap.size < w8.heap.size := Nat.lt_of_lt_of_le hsz7 hb8.size
      clear hb8 hB8
      go_wp2_with fail
      refine (HLx1.out w8 (HT4.out.below HB8.out)).mono ?_
      rintro e w9 ⟨v9, rfl, hown9, hb9⟩
      have hB9 := HB8.out.trans (hb9.mono HB8.out.size)
      have hO9 := ownsRow_belowT HO8.out hb9
      have hp9 := (hb9.block wr.heap.size hsz8).trans HP8.out
      have hsz9 : wr.heap.size < w9.heap.size := Nat.lt_of_lt_of_le hsz8 hb9.size
      obtain ⟨A9, c9, rfl, hT9, hA9⟩ := toks_own2 hown9
      have HP9 := Lib.hid hp9
      have HT9 := Lib.hid hT9
      have HA9 := Lib.hid hA9
      have HB9 := Lib.hid hB9
      have HO9 := Lib.hid hO9
      clear hb9 hown9 hp9 hT9 hA9 hB9 hO9 e0 e1 e2 e3 n0 n1 hq1 hs5 hsz6 hsz7 hsz8 qz q0
      go_wp2_with (at_builtin; refine wpList_append_toks _ rfl _ _ 22 rfl w4.heap.size 24 i0 _ 24 Tryd.underlying22 hi0 hz0 hz1 hz2 rfl v6 (acc ++ sg).length (tkCells (acc ++ sg)) rfl HO9.out A9 c9 tk rfl HA9.out HT9.out ?rb1 ?rb2 ?rb3 ?_)
      case rb1 => have := HAL.out; rw [List.length_append]; unfold maxLen; omega
      case rb2 => have := HAL.out; rw [List.length_append]; omega
      case rb3 => exact HB9.out.size
      intro v10 w10 hown10 hgrow10
      have hB10 := HB9.out.grown hgrow10 HB9.out.size (fun g hg => (HO9.out.lt g hg).1)
      have hp10 : w10.heap[wr.heap.size]? = some (.cells #[.int .i64 (a : Int), .int .i64 (b : Int)] 81 (0, 0)) := (hgrow10.block wr.heap.size hsz9 (fun h => own_block_ne HO9.out HP9.out (by decide) _ h.symm rfl)).trans HP9.out
      have e4 : w10.cell? ⟨wr.heap.size, 1, none⟩ = some (.int .i64 (b : Int)) := Lib.cell_of_heap hp10 1
      rw [show acc.length + sg.length + tk.length = (acc ++ sg ++ tk).length by simp only [List.length_append], ← tkCells_app] at hown10
      have HO10 := Lib.hid hown10
      have HB10 := Lib.hid hB10
      clear hown10 hgrow10 hB10 hp10
      go_wp2_with fail
      exact ⟨⟨k + 1, b, acc ++ sg ++ tk, _, rfl, by omega, by go_num, rfl, HX4.out, HRf2.out, .inr ⟨_, by rw [Nat.add_sub_cancel]; exact HGet.out, rfl⟩, HO10.out, HB10.out⟩, by simp only [intOf]; omega⟩
    · have hke : k = G.length := by omega
      subst hke
      have hd2 : d = dg := by
        rcases hd with h | ⟨p, hp, h⟩
        · omega
        · rw [HDg.out, List.getLast?_eq_getElem?, hp, h]; rfl
      subst hd2
      rw [List.drop_length] at hch hrf
      have hdl : d ≤ L.length := by rw [HL.out]; exact hch
      obtain ⟨A1, hq1, hA1, hT1⟩ := slice_tail (A := A) (L := L) (d := d) (c := c) hdl hc HA.out
      obtain ⟨sg, hsg⟩ : ∃ sg, sg = L.drop d := ⟨_, rfl⟩
      rw [← hsg] at hA1 hT1
      have hsl : L.length - d = sg.length := by rw [hsg, List.length_drop]
      rw [hsl] at hq1
      have hrf2 : acc ++ sg = lexL Y := by
        rw [← hrf, hsg, HL.out]; rfl
      have hyl := lexL_length Y.size Y (Nat.le_refl _)
      have hal2 : acc.length + sg.length ≤ 20000 := by
        rw [← List.length_append, hrf2]; omega
      have HAL := Lib.hid hal2
      have HT5 := Lib.hid (hT1 wr (HE4.out.below hB))
      have HRf2 := Lib.hid hrf2
      have HO := Lib.hid hown
      have HBr := Lib.hid hB
      have HDL := Lib.hid hdl
      obtain ⟨p0, hp0⟩ : ∃ p, G[0]? = some p := ⟨_, List.getElem?_eq_getElem g6⟩
      have hfg2 : fg = p0.1 := by rw [HFg.out, List.head?_eq_getElem?, hp0]; rfl
      have HFg2 := Lib.hid hfg2
      have m0 := (HCells.out 0 _ hp0).1
      have hlb : (L.length : Int) ≤ 20000 := by omega
      clear hch hrf hd hsg hsl hrf2 hyl hal2 hT1 hown hB hdl hp0 hfg2
      go_wp2_with (at_builtin; refine wpList_append_toks _ rfl _ _ 22 rfl w4.heap.size 24 i0 _ 24 Tryd.underlying22 hi0 hz0 hz1 hz2 rfl v acc.length (tkCells acc) rfl HO.out A1 (c - d) sg rfl hA1 HT5.out ?rc1 ?rc2 ?rc3 ?_)
      case rc1 => have := HAL.out; unfold maxLen; omega
      case rc2 => have := HAL.out; omega
      case rc3 => exact HBr.out.size
      intro v6 w6 hown6 hgrow6
      have hB6 := HBr.out.grown hgrow6 HBr.out.size (fun g hg => (HO.out.lt g hg).1)
      have n0 : w6.cell? ⟨gp, 0, none⟩ = some (.int .i64 ((p0.1 : Nat) : Int)) := by
        have := (hB6.cell (p := ⟨gp, 0 * 2, none⟩) hgp2).trans m0
        simpa using this
      rw [show acc.length + sg.length = (acc ++ sg).length by simp, ← tkCells_app, HRf2.out] at hown6
      have hown7 := own_base hown6 (show w.heap.size ≤ w4.heap.size from HB4.out.size)
      have hB7 := HB4.out.trans (hB6.mono HB4.out.size)
      have HO7 := Lib.hid hown7
      have HB7 := Lib.hid hB7
      have hg0 : (0 : Int) < (G.length : Int) := by omega
      have hdl2 : (d : Int) ≤ (L.length : Int) := by have := HDL.out; omega
      have s1 : IntKind.i64.wrap ((L.length : Int) - (d : Int)) = (L.length : Int) - (d : Int) := IntWalk.i64_in _ (by omega)
      clear hown6 hgrow6 hB6 hown7 hB7 m0 hA1
      go_wp2_with fail
      go_quiet (fail)
      go_wp2_with fail
      refine bodyPost_ret (by simp [results, Tryd.results25, go_sem]; try rfl) rfl ?_
      refine ⟨v6, by rw [HFg2.out], HO7.out, ?_⟩
      exact below_drewN HB7.out _
end Go.Proofs.YtkdnacniligjjaaDoor
