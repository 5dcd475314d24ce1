/-
  Trees: Text.
-/
import Derived.Test.YtpjlgahbbmlngaaDoorTreeLeavesp18
import Derived.Test.YtpjlgahbbmlngaaDoorTreeLeavesp16
import Derived.Test.YtpjlgahbbmlngaaDoorTreeLeavesp20
import Derived.Shelf.Strings.BuilderK
namespace Go.Proofs.YtpjlgahbbmlngaaDoor
set_option linter.unusedVariables false
set_option linter.unusedSimpArgs false
open Go Go.RowKit Go.Shelf

attribute [local go_sem] Oper.semAt_some

/-- the bytes of tokens -/
def bytesT (l : List Tok) : List UInt8 := l.flatMap (fun t => t.2.data.toList)
theorem bytesT_append (a b : List Tok) : bytesT (a ++ b) = bytesT a ++ bytesT b := by simp [bytesT]
theorem bytesT_length : ∀ l : List Tok, (bytesT l).length = sumT l
  | [] => rfl
  | t :: l => by
    have := bytesT_length l
    simp only [bytesT, List.flatMap_cons, List.length_append, sumT] at this ⊢
    rw [this]
    simp
theorem bytesT_take {l : List Tok} {k : Nat} {x : Tok} (h : l[k]? = some x) : bytesT (l.take (k + 1)) = bytesT (l.take k) ++ x.2.data.toList := by
  rw [take_snoc h, bytesT_append]; simp [bytesT]
def textN (n : Nd) : ByteArray := ⟨(bytesT (leavesN n)).toArray⟩

theorem BldR.turns {base b B : Nat} {v : Value} {l : List UInt8} {w W W' : World} {O : Nat → Prop} (h : BldR base b v l W) (hM : Mine B w O W) (ht : Turns O W W') (hb : b < B) (ho : ∀ g, v.ownBlock = some g → ¬ O g) : BldR base b v l W' := by
  obtain ⟨⟨p, h1, h2⟩, h3, h4⟩ := h
  exact ⟨⟨p, (hM.block ht hb).trans h1, h2⟩, own_same h3 (fun g hg => ht.block g (h3.lt g hg).2 (ho g hg)), h4⟩
theorem BldR.builder {base b : Nat} {v : Value} {l : List UInt8} {w : World} (h : BldR base b v l w) (hb : base ≤ b) : Bld base b l w := by
  obtain ⟨⟨p, h1, h2⟩, h3, h4⟩ := h
  rcases h2 with rfl | rfl
  · exact .inl ⟨hb, v, h1, by rw [Lib.byteCells_length]; exact h3, h4⟩
  · exact .inr ⟨hb, v, h1, by rw [Lib.byteCells_length]; exact h3, h4⟩

set_option maxRecDepth 100000 in
set_option maxHeartbeats 2000000 in
theorem Text_any (n : Nd) (v : Value) (w : World) (hC : sizeN n) (hS : sumS n) (hT : Tabs w) (hV : NodeV w v n) :
    Calls Tryd.prog 17 #[v] w fun e w' => e = .returned (if formedB n then .tuple #[.string (textN n), .int .i64 0] else .tuple #[.string ByteArray.empty, .int .i64 4]) ∧ Below w.heap.size w w' := by
  have hV0 := hV
  obtain ⟨A, c, rfl, hk⟩ := hV
  have hIF := IsFormed_any n _ (w.alloc (.cells (nodeCells n A c) 26)) hC (hT.below ((Below.refl _ _).alloc (Nat.le_refl _) _)) (hV0.alloc _)
  have hBa : Below w.heap.size w (w.alloc (.cells (nodeCells n A c) 26)) := (Below.refl _ _).alloc (Nat.le_refl _) _
  have HB := Lib.hid (show _ ∧ _ ∧ _ ∧ _ from ⟨hBa, hk, hC, hS⟩)
  clear hBa hT hV0 hk hC hS
  refine (callsIn_wide (n := 9)).1 ?_
  refine callsIn_of_wp_marks Tryd.func17 rfl trivial ?_ rfl
  simp only [Tryd.ntmps17, List.size_toArray, List.length_cons, List.length_nil, Nat.reduceAdd, Nat.reduceSub, Array.replicate_succ, Array.replicate_zero, List.push_toArray, List.append_toArray, List.nil_append, List.cons_append]
  refine wpIn_wide.2 ?_
  cases hf : formedB n with
  | false =>
    rw [hf] at hIF
    clear hf
    have HIF := Lib.hid hIF
    clear hIF
    go_wp2_with (go_at_call 21; refine HIF.out.mono ?_; rintro e w1 ⟨rfl, hb1⟩)
    exact ⟨.tuple #[.string ByteArray.empty, .int .i64 4], by simp [results, Tryd.f17, go_sem]; rfl, by simp, HB.out.1.trans (hb1.mono HB.out.1.size)⟩
  | true =>
    rw [hf] at hIF
    clear hf
    have HIF := Lib.hid hIF
    clear hIF
    go_wp2_with (first
      | (go_at_call 21; refine HIF.out.mono ?_; rintro e w1 ⟨rfl, hb1⟩; obtain ⟨e0, e1, e2, e3⟩ := cells_of_block (cells_later hb1); have hlt : w.heap.size < w1.heap.size := Nat.lt_of_lt_of_le (by simp) hb1.size; have hne : w.heap.size ≠ w1.heap.size := Nat.ne_of_lt hlt)
      | (go_at_call 57; refine (leaves_any n A c _).mono ?_; rintro e w' ⟨rfl, rfl⟩))
    obtain ⟨hBa, hk, hC, hS⟩ := HB.out
    have hBw : Below w.heap.size w w1 := hBa.trans (hb1.mono hBa.size)
    have hk1 : KidsV w1 A n.kids := hk.below hBw
    obtain ⟨W0, hW0⟩ : ∃ W0, W0 = (w1.alloc (.cells #[.pointer none, .slice none 0 0] 92)).alloc (.cells (nodeCells n A c) 26) := ⟨_, rfl⟩
    have hB0 : Below w1.heap.size w1 W0 := by rw [hW0]; exact ((Below.refl _ _).alloc (Nat.le_refl _) _).alloc (by simp) _
    have hs0 : W0.heap.size = w1.heap.size + 2 := by rw [hW0]; simp
    have hb2 : W0.heap[w1.heap.size]? = some (.cells #[.pointer none, .slice none 0 0] 92 (0, 0)) := by rw [hW0, alloc_old _ _ _ (by simp), alloc_at _ _ _ rfl]
    have hb4 : W0.heap[w1.heap.size + 1]? = some (.cells (nodeCells n A c) 26 (0, 0)) := by rw [hW0, alloc_at _ _ _ (by simp)]
    obtain ⟨c0, c1, c2, c3⟩ := cells_of_block hb4
    have hM0 : Mine (w1.heap.size + 2) w1 (fun _ => False) W0 := ⟨fun b hb => hb.elim, hB0, by omega, by omega⟩
    refine (wpIn_wide (n := 9)).1 ?_
    have hgo : ∀ (Q : Exit → Act → World → Prop) (a : Act) (g : Operand) (ps : Array Tmp) (assign body : Code), (Code.rangeFunc g ps assign body).wpIn Fence.wide 9 Tryd.prog Q a W0 → (Code.rangeFunc g ps assign body).wpIn Fence.wide 9 Tryd.prog Q a ((w1.alloc (.cells #[.pointer none, .slice none 0 0] 92)).alloc (.cells (nodeCells n A c) 26)) := fun _ _ _ _ _ _ h => by rw [← hW0]; exact h
    refine hgo _ _ _ _ _ _ ?_
    clear hgo hW0
    have HBW := Lib.hid (show _ ∧ _ ∧ _ from ⟨hBw, hC, hS⟩)
    refine wpIn_rangeT rfl (by decide) (gf := 81) (lb := #[.pointer (some ⟨w1.heap.size + 1, 0, none⟩)]) rfl trivial (enters_of Tryd.func81 (by kernel_rfl) rfl)
      (leaves1_gives w1 n hC (w1.heap.size + 1) A c W0 hB0 (by omega) c0 c1 c2 c3 hk1) (Below.refl _ _) hB0.size EnL.keep (fun O x W args h => EnL.size O x W args h)
      (fun k O W => Mine (w1.heap.size + 2) w1 O W ∧ ∃ v, BldR w1.heap.size w1.heap.size v (bytesT ((leavesN n).take k)) W ∧ ∀ g, v.ownBlock = some g → ¬ O g)
      (fun _ _ _ _ => False)
      (fun k O O' W W' h ht hg => ⟨h.1.turns ht hg, by
        obtain ⟨v, h1, h2⟩ := h.2
        exact ⟨v, h1.turns h.1 ht (by omega) h2, fun g e ho => (hg g ho).elim (h2 g e) (fun h' => by have := (h1.row.lt g e).2; omega)⟩⟩)
      (fun _ _ _ _ _ _ h _ _ => h)
      ⟨hM0, .slice none 0 0, ⟨⟨_, hb2, .inl rfl⟩, by simpa [bytesT, Lib.byteCells] using World.ownsRow_nil W0 w1.heap.size 5 1, by simp [Value.ownBlock]⟩, fun g h => by simp [Value.ownBlock] at h⟩ ?round ?done ?stop
    case round =>
      rintro l k O x args W hO hn ⟨hM, v, hbr, hvo⟩ hx rfl
      gi_wp2
      refine ⟨(Below.refl _ _).alloc (Nat.le_refl _) _, fun W2 hT2 hs2 hi2 he2 => ?_⟩
      have hbx : W2.heap[W.heap.size]? = some (.cells #[.int .i64 x.1, .string x.2] 23 (0, 0)) := (hT2.block _ (by simp) (fun h => Nat.lt_irrefl _ (hO _ h))).trans (alloc_at _ _ _ rfl)
      obtain ⟨hM2, v2, hbr2, hvo2⟩ := hi2
      have d1 : W2.cell? ⟨W.heap.size, 1, none⟩ = some (.string x.2) := Lib.cell_of_heap hbx 1
      have hlen : (bytesT ((leavesN n).take k)).length + x.2.size ≤ 140737488355328 := by
        have h1 := sumT_take hx
        have h2 := sumT_le (leavesN n) (k + 1)
        unfold sumS at hS
        rw [bytesT_length]; omega
      have hw := WriteString_row w1.heap.size w1.heap.size v2 _ x.2 W2 hbr2 hlen hM2.below.size
      have HX := Lib.hid (show _ ∧ _ ∧ _ ∧ _ ∧ _ from ⟨hM2, hbr2, hvo2, bytesT_take hx, hs2⟩)
      have HO := Lib.hid hO
      have HWS := Lib.hid hw
      clear hM2 hbr2 hvo2 hw hlen hT2 hs2 he2 hbx hx hO hM hbr hvo hn c0 c1 c2 c3 e0 e1 e2 e3 hB0 hs0 hb2 hb4 hM0 hk1 hBw hk hBa hb1 hC hS hlt hne
      gi_wp2_with (first | (gi_at_call 58; refine (CallsIn.inRound l ((callsIn_wide (n := 6)).2 HWS.out)).mono ?_; rintro e w4 ⟨rfl, hq⟩; have HQ := Lib.hid hq; clear hq) | (refine And.intro (show Fence.wide.fn 58 from trivial) ?_))
      obtain ⟨⟨v4, hbr4, hvo4⟩, hz1, hz2, hz3, hz4, hz5⟩ := HQ.out
      obtain ⟨hM2, hbr2, hvo2, hbt, hs2⟩ := HX.out
      have hOb : ∀ b, O b → b < W2.heap.size := fun b hb => by have := HO.out b hb; rw [hs2]; simp; omega
      have hfar : ∀ b, b < w1.heap.size → w4.heap[b]? = W2.heap[b]? := fun b hb => hz5 b (by have := hM2.below.size; omega) (by omega) (fun e => by have := (hbr2.row.lt b e).1; omega)
      have hBl : Below w1.heap.size W2 w4 := ⟨hz2, hz3, hz4, hz1, hfar⟩
      refine ⟨⟨hBl, fun b hb => hz5 b (hOb b hb) (fun e => by have := hM2.far b hb; omega) (fun e => hvo2 b e hb)⟩, ⟨hM2.far, hM2.below.trans hBl, Nat.le_trans hM2.size hz1, hM2.base⟩, v4, ?_, fun g hg ho => (hvo4 g hg).elim (fun h => hvo2 g h ho) (fun h => by have := hOb g ho; omega)⟩
      rw [hbt]
      exact hbr4
    case done =>
      rintro D O W hD _ ⟨hM, v, hbr, hvo⟩ hKD
      rw [List.take_length] at hbr
      have hBS := Any.Builder_String_any_k lays169 extra169 w1.heap.size w1.heap.size _ W ((hbr.builder (Nat.le_refl _)).imp Lib.BuilderAtF.of Lib.BuilderAtF.of) hM.below.size
      clear hbr hvo
      go_wp2_with (go_at_call 59; refine hBS.mono ?_; rintro e w5 ⟨rfl, _, hb5, ho5⟩)
      have hKD5 : w5.heap[D]? = some (.deferred (some [])) := by
        exact ho5 D _ hKD (by simp; omega) (by intro c fz h; cases h)
      refine ⟨by simp, .inl ⟨_, _, rfl, run_takeDeferred hKD5, ?_⟩⟩
      exact ⟨.tuple #[.string (textN n), .int .i64 0], by simp [results, Tryd.f17, go_sem]; rfl, rfl, hBw.trans ((hM.below.mono hBw.size).trans ((hb5.mono hBw.size).trans ⟨rfl, rfl, rfl, by simp, fun b hb => World.putObj_heap_other (by have := hBw.size; omega)⟩))⟩
    case stop =>
      rintro D O cd k W hD _ hkl h hKD
      exact h.elim
end Go.Proofs.YtpjlgahbbmlngaaDoor
