/-
  Trees: the contract of the specification's cut.; Trees: the specification's Cut and the statements' cut.
-/
import Derived.Test.YtpjlgahbbmlngaaDoorTreeLeavesp28
import Derived.Test.YtpjlgahbbmlngaaDoorTreeLeavesp27
import Derived.Deep.DeepCutAuto
namespace Go.Proofs.YtpjlgahbbmlngaaDoor
set_option linter.unusedVariables false
set_option linter.unusedSimpArgs false
open Go Go.RowKit

set_option maxRecDepth 100000 in
set_option maxHeartbeats 2000000 in
theorem RCut_any : ∀ (m : Nat) (n : Nd) (left d : Nat) (v : Value) (w : World), deepN n < m → 1 ≤ left → left ≤ 600 → d ≤ 1003 → rawN n → NodeV w v n →
    Calls Tryd.prog 77 #[v, .int .i64 (left : Nat), .int .i64 (d : Nat)] w fun e w' => ∃ v', e = .returned (.tuple #[v', .int .i64 ((cutN n left d).2 : Nat)]) ∧ NodeP (fun b => w.heap.size ≤ b) w' v' (cutN n left d).1 ∧ Below w.heap.size w w'
  | 0, n, left, d, v, w, h, _, _, _, _, _ => absurd h (Nat.not_lt_zero _)
  | m + 1, .mk kd (tk, tx) l, left, d, v, w, hm, hl1, hl6, hd, hraw, hV => by
    have IH := RCut_any m
    have hV : ∃ A c, v = .agg #[.int .i64 kd, .int .i64 tk, .string tx, .slice A l.length c] ∧ KidsV w A l := hV
    obtain ⟨A, c, rfl, hk⟩ := hV
    obtain ⟨w0, hw0⟩ : ∃ w0, w0 = (w.alloc (.cells #[.int .i64 kd, .int .i64 tk, .string tx, .slice A l.length c] 26)).alloc (.cells #[.int .i64 0, .int .i64 0, .string { data := #[] }, .slice none 0 0] 26) := ⟨_, rfl⟩
    have hB0 : Below w.heap.size w w0 := by rw [hw0]; exact ((Below.refl _ _).alloc (Nat.le_refl _) _).alloc (by simp) _
    have hb0 : w0.heap[w.heap.size]? = some (.cells #[.int .i64 kd, .int .i64 tk, .string tx, .slice A l.length c] 26 (0, 0)) := by rw [hw0, alloc_old _ _ _ (by simp)]; exact heap_alloc_new w _
    have hb1 : w0.heap[w.heap.size + 1]? = some (.cells #[.int .i64 0, .int .i64 0, .string { data := #[] }, .slice none 0 0] 26 (0, 0)) := by rw [hw0]; exact alloc_at _ _ _ (by simp)
    have hs0 : w0.heap.size = w.heap.size + 2 := by rw [hw0]; simp
    have p0 : w0.cell? ⟨w.heap.size, 0, none⟩ = some (.int .i64 kd) := Lib.cell_of_heap hb0 0
    have p1 : w0.cell? ⟨w.heap.size, 1, none⟩ = some (.int .i64 tk) := Lib.cell_of_heap hb0 1
    have p2 : w0.cell? ⟨w.heap.size, 2, none⟩ = some (.string tx) := Lib.cell_of_heap hb0 2
    have p3 : w0.cell? ⟨w.heap.size, 3, none⟩ = some (.slice A l.length c) := Lib.cell_of_heap hb0 3
    have hone := fun W => One_any tk tx W hraw.1
    have hm : deepL l < m + 1 := hm
    have hW := Lib.hid hw0
    have Hone := Lib.hid hone
    have HIH := Lib.hid IH
    have HX := Lib.hid (show _ ∧ _ ∧ _ ∧ _ ∧ _ from ⟨hB0, hb0, hb1, hs0, hk⟩)
    have HN := Lib.hid (show _ ∧ _ ∧ _ ∧ _ ∧ _ from ⟨hm, hl1, hl6, hd, hraw⟩)
    have hsz0 : w.heap.size < w0.heap.size := by omega
    clear IH hm hk hB0 hb0 hb1 hone hraw hw0 hs0
    go_enter Tryd.func77, Tryd.ntmps77
    go_upto_region 1 with fail
    go_cut [8] (fun s8 w5 => ∃ b8 : Nat, s8 = .pointer (some ⟨b8, 0, none⟩) ∧ w.heap.size + 2 ≤ b8 ∧ b8 < w5.heap.size ∧ Below w.heap.size w w5 ∧ w5.heap[w.heap.size]? = some (.cells #[.int .i64 kd, .int .i64 tk, .string tx, .slice A l.length c] 26 (0, 0)) ∧ w5.heap[w.heap.size + 1]? = some (.cells #[.int .i64 0, .int .i64 0, .string { data := #[] }, .slice none 0 0] 26 (0, 0)) ∧ w5.heap[b8]? = some (.cells #[.int .i64 kd, .int .i64 tk, .string (shortT tx), .slice none 0 0] 26 (0, 0)))
    case first =>
      rw [← hW.out]
      go_region_law ((first
        | (go_simp
           go_at_call 101
           with_reducible refine (Hone.out _).mono ?_
           rintro e wO ⟨rfl, hbO⟩
           have hz : wO.heap[w0.heap.size]? = some (.cells #[.int .i64 0, .int .i64 0, .string { data := #[] }, .slice none 0 0] 26 (0, 0)) := (hbO.block w0.heap.size (by simp)).trans (heap_alloc_new _ _)
           have q0 : wO.cell? ⟨w0.heap.size, 0, none⟩ = some (.int .i64 0) := Lib.cell_of_heap hz 0
           have q1 : wO.cell? ⟨w0.heap.size, 1, none⟩ = some (.int .i64 0) := Lib.cell_of_heap hz 1
           have q2 : wO.cell? ⟨w0.heap.size, 2, none⟩ = some (.string { data := #[] }) := Lib.cell_of_heap hz 2
           have q3 : wO.cell? ⟨w0.heap.size, 3, none⟩ = some (.slice none 0 0) := Lib.cell_of_heap hz 3
           have r0 : wO.frozen? ⟨w0.heap.size, 0, none⟩ = false := by simp [World.frozen?, hz]
           have r1 : wO.frozen? ⟨w0.heap.size, 1, none⟩ = false := by simp [World.frozen?, hz]
           have r2 : wO.frozen? ⟨w0.heap.size, 2, none⟩ = false := by simp [World.frozen?, hz]
           have r3 : wO.frozen? ⟨w0.heap.size, 3, none⟩ = false := by simp [World.frozen?, hz]
           have hBO : Below w0.heap.size w0 wO := by
             first
             | exact (Below.drew ((Below.refl w0.heap.size w0).alloc (Nat.le_refl _) _)).trans (hbO.mono (by simp))
             | exact (((Below.refl w0.heap.size w0).drew).alloc (Nat.le_refl _) _).trans (hbO.mono (by simp))
           have rp := (hBO.block w.heap.size hsz0).trans HX.out.2.1
           have rp0 : wO.cell? ⟨w.heap.size, 0, none⟩ = some (.int .i64 kd) := Lib.cell_of_heap rp 0)
        | (go_simp
           go_at_call 101
           with_reducible refine (Hone.out _).mono ?_
           rintro e wO ⟨rfl, hbO⟩
           have hBO : Below w0.heap.size w0 wO := by
             first
             | exact (Below.drew (Below.refl w0.heap.size w0)).trans hbO
             | exact hbO
           have rsz : w.heap.size < wO.heap.size := Nat.lt_of_lt_of_le hsz0 hbO.size
           have rp := (hBO.block w.heap.size hsz0).trans HX.out.2.1
           have rp0 : wO.cell? ⟨w.heap.size, 0, none⟩ = some (.int .i64 kd) := Lib.cell_of_heap rp 0)))
      all_goals
        have rz := (hBO.block (w.heap.size + 1) (by rw [HX.out.2.2.2.1]; omega)).trans HX.out.2.2.1
        have hBw := HX.out.1.trans (hBO.mono HX.out.1.size)
        have hsO := hBO.size
        rw [HX.out.2.2.2.1] at hsO
        have HF := Lib.hid (show _ ∧ _ ∧ _ ∧ _ from ⟨rp, rz, hBw, hsO⟩)
        clear rp rz hBw hsO hBO hbO rp0
        first
        | (have Hz := Lib.hid hz
           clear hz q0 q1 q2 q3 r0 r1 r2 r3
           go_wp2_with fail
           go_meet
           exact ⟨w0.heap.size, rfl, by rw [HX.out.2.2.2.1]; exact Nat.le_refl _, by rw [size4]; exact (Array.getElem?_eq_some_iff.1 Hz.out).1, below4 HF.out.2.2.1 (Nat.le_of_lt hsz0), (other4 (Nat.ne_of_lt hsz0)).trans HF.out.1, (other4 (by rw [HX.out.2.2.2.1]; omega)).trans HF.out.2.1, set4 Hz.out⟩)
        | (go_wp2_with fail
           go_meet
           exact ⟨wO.heap.size, rfl, HF.out.2.2.2, by simp, HF.out.2.2.1.alloc HF.out.2.2.1.size _, (alloc_old _ _ _ (by have := HF.out.2.2.2; omega)).trans HF.out.1, (alloc_old _ _ _ (by have := HF.out.2.2.2; omega)).trans HF.out.2.1, alloc_at _ _ _ rfl⟩)
    case rest =>
      obtain ⟨b8, rfl, h8, h8s, hBc, k0, k1, k8⟩ := hcut
      have HC := Lib.hid (show _ ∧ _ ∧ _ ∧ _ ∧ _ ∧ _ from ⟨h8, h8s, hBc, k0, k1, k8⟩)
      have hlm : IntKind.i64.wrap ((left : Int) - 1) = ((left - 1 : Nat) : Int) := by rw [IntWalk.i64_in _ (by omega)]; omega
      have hlen : l.length ≤ maxLen := HN.out.2.2.2.2.2.1
      unfold maxLen at hlen
      have c3 : wc.cell? ⟨w.heap.size, 3, none⟩ = some (.slice A l.length c) := Lib.cell_of_heap k0 3
      obtain ⟨i0, hi0, hz0, hz1, hz2⟩ := info_parts infoNode
      clear k0 k1 k8 hBc p0 p1 p2 p3 hsz0 hV hm
      by_cases hdd : d ≤ 1002
      · have hcu : cutN (.mk kd (tk, tx) l) left d = (.mk kd (tk, shortT tx) (cutL l (left - 1) (d + 1)).1, (cutL l (left - 1) (d + 1)).2) := if_pos hdd
        have HCU := Lib.hid hcu
        clear hcu
        have hd2 : decide ((d : Int) ≤ 1002) = true := decide_eq_true (by omega)
        have hd3 : (d : Int) ≤ 1002 := by omega
        go_wp2_with fail
        go_loopw [9, 10] (fun r i wr => ∃ (k rr : Nat) (ys : List Pn) (sv : Value), k ≤ l.length ∧ i = .int .i64 k ∧ r = .int .i64 rr ∧ ys.length + rr ≤ 600 ∧ cutL l (left - 1) (d + 1) = (ys.map (·.1) ++ (cutL (l.drop k) rr (d + 1)).1, (cutL (l.drop k) rr (d + 1)).2) ∧ CutSt b8 wc.heap.size kd tk (shortT tx) wc ys sv wr) (fun _ i _ => l.length - (intOf i).toNat)
        case atStart => exact ⟨0, left - 1, [], .slice none 0 0, Nat.zero_le _, rfl, rfl, by simp; omega, by simp, ⟨HC.out.2.2.2.2.2, by simpa [pathCells] using World.ownsRow_nil wc wc.heap.size 26 4, fun i y h => by simp at h, Below.refl _ _, Nat.le_refl _⟩⟩
        case round =>
          obtain ⟨k, rr, ys, sv, hk, rfl, rfl, hyr, hcl, hst⟩ := hrel
          have hsr := hst.size
          have hBwr : Below w.heap.size w wr := HC.out.2.2.1.trans (hst.below.mono (by omega))
          have q3 : wr.cell? ⟨w.heap.size, 3, none⟩ = some (.slice A l.length c) := (hst.below.cell (p := ⟨w.heap.size, 3, none⟩) (show w.heap.size < b8 by omega)).trans c3
          by_cases hgo : k < l.length ∧ rr ≠ 0
          · obtain ⟨hlt, hr0⟩ := hgo
            have hk0 : (0 : Int) ≤ (k : Int) := by omega
            have hk1 : (k : Int) < (l.length : Int) := by omega
            have hr1 : (0 : Int) < (rr : Int) := by omega
            have hx0 : l[k]? = some l[k] := List.getElem?_eq_getElem hlt
            obtain ⟨b, o, rfl, n1⟩ := (HX.out.2.2.2.2.below hBwr) (by omega)
            obtain ⟨x, hx⟩ : ∃ x, x = l[k] := ⟨_, rfl⟩
            rw [← hx] at hx0
            obtain ⟨B1, d1, s1, x0, x1, x2, x3, xk⟩ := n1.get hx0
            have hdx := deepL_at hx0
            have hcall := HIH.out x rr (d + 1) (.agg #[.int .i64 x.kind, .int .i64 x.tok.1, .string x.tok.2, .slice B1 x.kids.length d1]) wr (by have := HN.out.1; omega) (by omega) (by omega) (by omega) (rawL_at HN.out.2.2.2.2.2.2 hx0) ⟨B1, d1, rfl, xk⟩
            rw [cutL_step hx0 hr0] at hcl
            have hmore := cutN_count x rr (d + 1) (by omega)
            have hcp := countN_pos (cutN x rr (d + 1)).1
            generalize (cutN x rr (d + 1)).1 = z at hcall hcl hmore hcp
            generalize (cutN x rr (d + 1)).2 = mr at hcall hcl hmore
            have hd1 : ((d + 1 : Nat) : Int) = (d : Int) + 1 := by omega
            rw [hd1] at hcall
            have e3 : IntKind.i64.wrap ((k : Int) + 1) = ((k + 1 : Nat) : Int) := by rw [IntWalk.i64_in _ (by omega)]; omega
            have e4 : IntKind.i64.wrap ((d : Int) + 1) = ((d + 1 : Nat) : Int) := by rw [IntWalk.i64_in _ (by omega)]; omega
            have HCall := Lib.hid hcall
            have HR := Lib.hid (show _ ∧ _ ∧ _ ∧ _ from ⟨hyr, hcl, hst, hBwr⟩)
            clear hx hx0 n1 xk hcall hcl hst hBwr hyr
            go_wp2_with fail
            refine HCall.out.mono ?_
            rintro e w3 ⟨v', rfl, ⟨A', c', rfl, hzc, hzk⟩, hb3⟩
            have g8 := (hb3.block b8 (by omega)).trans HR.out.2.2.1.out
            have g83 : w3.cell? ⟨b8, 3, none⟩ = some sv := Lib.cell_of_heap g8 3
            have hs3 := hb3.size
            have hl8 : b8 < w3.heap.size := by omega
            have hne8 : b8 ≠ w3.heap.size := by omega
            have hb4 : Below wr.heap.size wr (w3.alloc (.cells (nodeCells z A' c') 26)) := hb3.alloc hs3 _
            have hb5 : Below wr.heap.size wr ((w3.alloc (.cells (nodeCells z A' c') 26)).alloc (.cells (nodeCells z A' c') 26)) := hb4.alloc hb4.size _
            have hrow5 := HR.out.2.2.1.row5 hb5
            have hnews := World.news_of_block (w := (w3.alloc (.cells (nodeCells z A' c') 26)).alloc (.cells (nodeCells z A' c') 26)) (B := w3.heap.size + 1) (cs := nodeCells z A' c') (t := 26) (fr := (0, 0)) (alloc_at _ _ _ (by simp))
            have h63 : ys.length + 1 ≤ maxLen := by have := HR.out.1; unfold maxLen; omega
            have hby : (ys.length + 1) * 56 ≤ 140737488355328 := by have := HR.out.1; omega
            have hbs : wc.heap.size ≤ ((w3.alloc (.cells (nodeCells z A' c') 26)).alloc (.cells (nodeCells z A' c') 26)).heap.size := by simp; omega
            have H3 := Lib.hid (show _ ∧ _ ∧ _ ∧ _ from ⟨hzk, hb3, g8, hb5⟩)
            clear hzk hb3 g8 hb4 hb5
            go_wp2_with (at_builtin; refine wpList_append_lies _ rfl _ _ 24 rfl wc.heap.size 26 i0 _ 4 56 Tryd.underlying24 hi0 hz0 hz1 hz2 rfl (by decide) _ _ _ rfl hrow5 ⟨w3.heap.size + 1, 0, none⟩ 1 1 (cells4 (z, A', c')) rfl rfl hnews (pathCells_one [(z, A', c')]) (by decide) h63 hby hbs (w3.heap.size + 2) (by simp) ?_)
            intro g cap w6 hrow6 hgr6 hat6 hlt6
            have g6 : w6.heap[b8]? = some (.cells #[.int .i64 kd, .int .i64 tk, .string (shortT tx), sv] 26 (0, 0)) :=
              (hgr6.block b8 (by simp; omega) (fun e => by have := (HR.out.2.2.1.row.lt b8 e.symm).1; omega)).trans ((alloc_old _ _ _ (by simp; omega)).trans ((alloc_old _ _ _ (by omega)).trans H3.out.2.2.1))
            have g63 : w6.cell? ⟨b8, 3, none⟩ = some sv := Lib.cell_of_heap g6 3
            have f63 : w6.frozen? ⟨b8, 3, none⟩ = false := frozen_block g6
            have hstep := HR.out.2.2.1.step h8s H3.out.2.2.2 (y := (z, A', c')) hzc (H3.out.1.kept (by simp; omega) (fun b hp hb => (alloc_old _ _ _ (by simp; omega)).trans (alloc_old _ _ _ hb)) (fun b hp hb => hp)) hrow6 hgr6 (hat6.imp id (fun h => by rw [h]; simp))
            have H6 := Lib.hid hstep
            clear hstep hrow6 hgr6 hat6 g6 hrow5 hnews h63 hby hbs hlt6
            go_wp2_with fail
            exact ⟨⟨k + 1, mr, ys ++ [(z, A', c')], _, by omega, by go_num, by go_num, by have := HR.out.1; rw [List.length_append, List.length_singleton]; omega, by rw [HR.out.2.1]; simp, H6.out⟩, by simp [intOf]; omega⟩
          · have hend : cutL (l.drop k) rr (d + 1) = ([], rr) := by
              rcases Nat.lt_or_ge k l.length with h | h
              · have : rr = 0 := by
                  rcases Nat.eq_zero_or_pos rr with h0 | h0
                  · exact h0
                  · exact absurd ⟨h, by omega⟩ hgo
                subst this
                exact cutL_zero _ _
              · rw [List.drop_eq_nil_of_le h]; rfl
            rw [hend, List.append_nil] at hcl
            obtain ⟨aS, cS, rfl⟩ := own_slice hst.row
            have e8 := hst.out
            have z0 : wr.cell? ⟨b8, 0, none⟩ = some (.int .i64 kd) := Lib.cell_of_heap e8 0
            have z1 : wr.cell? ⟨b8, 1, none⟩ = some (.int .i64 tk) := Lib.cell_of_heap e8 1
            have z2 : wr.cell? ⟨b8, 2, none⟩ = some (.string (shortT tx)) := Lib.cell_of_heap e8 2
            have z3 : wr.cell? ⟨b8, 3, none⟩ = some (.slice aS ys.length cS) := Lib.cell_of_heap e8 3
            have e1 := (hst.below.block (w.heap.size + 1) (by omega)).trans HC.out.2.2.2.2.1
            have r0 : wr.cell? ⟨w.heap.size + 1, 0, none⟩ = some (.int .i64 0) := Lib.cell_of_heap e1 0
            have r1 : wr.cell? ⟨w.heap.size + 1, 1, none⟩ = some (.int .i64 0) := Lib.cell_of_heap e1 1
            have r2 : wr.cell? ⟨w.heap.size + 1, 2, none⟩ = some (.string { data := #[] }) := Lib.cell_of_heap e1 2
            have r3 : wr.cell? ⟨w.heap.size + 1, 3, none⟩ = some (.slice none 0 0) := Lib.cell_of_heap e1 3
            have f0 : wr.frozen? ⟨w.heap.size + 1, 0, none⟩ = false := frozen_block e1
            have f1 : wr.frozen? ⟨w.heap.size + 1, 1, none⟩ = false := frozen_block e1
            have f2 : wr.frozen? ⟨w.heap.size + 1, 2, none⟩ = false := frozen_block e1
            have f3 : wr.frozen? ⟨w.heap.size + 1, 3, none⟩ = false := frozen_block e1
            have HS := Lib.hid (show _ ∧ _ from ⟨hst, hBwr⟩)
            have HL := Lib.hid hcl
            clear hst hBwr hcl hend e8
            have hway : l.length ≤ k ∨ (k < l.length ∧ rr = 0) := by
              rcases Nat.lt_or_ge k l.length with h | h
              · refine .inr ⟨h, ?_⟩
                rcases Nat.eq_zero_or_pos rr with h0 | h0
                · exact h0
                · exact absurd ⟨h, by omega⟩ hgo
              · exact .inl h
            clear hgo
            rcases hway with h | ⟨h, hr⟩
            · have t1 : ¬ (k : Int) < (l.length : Int) := by omega
              have t2 : decide ((k : Int) < (l.length : Int)) = false := decide_eq_false t1
              have t3 : decide (k < l.length) = false := decide_eq_false (by omega)
              go_wp2_with fail
              have hz := set4 (v0 := .int .i64 kd) (v1 := .int .i64 tk) (v2 := .string (shortT tx)) (v3 := .slice aS ys.length cS) e1
              have s0 := Lib.cell_of_heap hz 0
              have s1 := Lib.cell_of_heap hz 1
              have s2 := Lib.cell_of_heap hz 2
              have s3 := Lib.cell_of_heap hz 3
              refine bodyPost_ret (by simp [results, Tryd.f77, go_sem, s0, s1, s2, s3]; try rfl) rfl ?_
              rw [HCU.out]
              rw [HL.out]
              exact ⟨_, rfl, HS.out.1.node (B := w.heap.size) (by rw [size4]; exact Nat.le_refl _) (fun b h1 h2 => other4 (by omega)) (by omega), below4 HS.out.2 (Nat.le_succ _)⟩
            · have t1 : (k : Int) < (l.length : Int) := by omega
              have t2 : ¬ (0 : Int) < (rr : Int) := by omega
              have t3 : decide ((0 : Int) < (rr : Int)) = false := decide_eq_false t2
              have t4 : decide (0 < rr) = false := decide_eq_false (by omega)
              go_wp2_with fail
              have hz := set4 (v0 := .int .i64 kd) (v1 := .int .i64 tk) (v2 := .string (shortT tx)) (v3 := .slice aS ys.length cS) e1
              have s0 := Lib.cell_of_heap hz 0
              have s1 := Lib.cell_of_heap hz 1
              have s2 := Lib.cell_of_heap hz 2
              have s3 := Lib.cell_of_heap hz 3
              refine bodyPost_ret (by simp [results, Tryd.f77, go_sem, s0, s1, s2, s3]; try rfl) rfl ?_
              rw [HCU.out]
              rw [HL.out]
              exact ⟨_, by first | rfl | (rw [hr]; rfl), HS.out.1.node (B := w.heap.size) (by rw [size4]; exact Nat.le_refl _) (fun b h1 h2 => other4 (by omega)) (by omega), below4 HS.out.2 (Nat.le_succ _)⟩
      · have hcu : cutN (.mk kd (tk, tx) l) left d = (.mk kd (tk, shortT tx) [], left - 1) := if_neg hdd
        have HCU := Lib.hid hcu
        clear hcu
        have hst : CutSt b8 wc.heap.size kd tk (shortT tx) wc [] (.slice none 0 0) wc := ⟨HC.out.2.2.2.2.2, by simpa [pathCells] using World.ownsRow_nil wc wc.heap.size 26 4, fun i y h => by simp at h, Below.refl _ _, Nat.le_refl _⟩
        have hd2 : decide ((d : Int) ≤ 1002) = false := decide_eq_false (by omega)
        have hd3 : ¬ (d : Int) ≤ 1002 := by omega
        have e8 := hst.out
        have z0 : wc.cell? ⟨b8, 0, none⟩ = some (.int .i64 kd) := Lib.cell_of_heap e8 0
        have z1 : wc.cell? ⟨b8, 1, none⟩ = some (.int .i64 tk) := Lib.cell_of_heap e8 1
        have z2 : wc.cell? ⟨b8, 2, none⟩ = some (.string (shortT tx)) := Lib.cell_of_heap e8 2
        have z3 : wc.cell? ⟨b8, 3, none⟩ = some (.slice none 0 0) := Lib.cell_of_heap e8 3
        have e1 := HC.out.2.2.2.2.1
        have r0 : wc.cell? ⟨w.heap.size + 1, 0, none⟩ = some (.int .i64 0) := Lib.cell_of_heap e1 0
        have r1 : wc.cell? ⟨w.heap.size + 1, 1, none⟩ = some (.int .i64 0) := Lib.cell_of_heap e1 1
        have r2 : wc.cell? ⟨w.heap.size + 1, 2, none⟩ = some (.string { data := #[] }) := Lib.cell_of_heap e1 2
        have r3 : wc.cell? ⟨w.heap.size + 1, 3, none⟩ = some (.slice none 0 0) := Lib.cell_of_heap e1 3
        have f0 : wc.frozen? ⟨w.heap.size + 1, 0, none⟩ = false := frozen_block e1
        have f1 : wc.frozen? ⟨w.heap.size + 1, 1, none⟩ = false := frozen_block e1
        have f2 : wc.frozen? ⟨w.heap.size + 1, 2, none⟩ = false := frozen_block e1
        have f3 : wc.frozen? ⟨w.heap.size + 1, 3, none⟩ = false := frozen_block e1
        have HS := Lib.hid (show _ ∧ _ from ⟨hst, HC.out.2.2.1⟩)
        clear hst e8
        obtain ⟨rr, hrr⟩ : ∃ rr, rr = left - 1 := ⟨_, rfl⟩
        rw [← hrr] at hlm HCU
        clear hrr
        go_wp2_with fail
        go_loopw [9, 10] (fun r i wr => i = .int .i64 0 ∧ r = .int .i64 rr ∧ wr = wc) (fun _ _ _ => 0)
        case atStart => exact ⟨rfl, rfl, rfl⟩
        case round =>
          obtain ⟨rfl, rfl, rfl⟩ := hrel
          rcases Nat.eq_zero_or_pos l.length with h | h
          · have t1 : ¬ (0 : Int) < (l.length : Int) := by omega
            have t2 : decide ((0 : Int) < (l.length : Int)) = false := decide_eq_false t1
            have t3 : decide (0 < l.length) = false := decide_eq_false (by omega)
            go_wp2_with fail
            have hz := set4 (v0 := .int .i64 kd) (v1 := .int .i64 tk) (v2 := .string (shortT tx)) (v3 := .slice none 0 0) e1
            have s0 := Lib.cell_of_heap hz 0
            have s1 := Lib.cell_of_heap hz 1
            have s2 := Lib.cell_of_heap hz 2
            have s3 := Lib.cell_of_heap hz 3
            refine bodyPost_ret (by simp [results, Tryd.f77, go_sem, s0, s1, s2, s3]; try rfl) rfl ?_
            rw [HCU.out]
            try simp only []
            exact ⟨_, rfl, HS.out.1.node (B := w.heap.size) (by rw [size4]; exact Nat.le_refl _) (fun b h1 h2 => other4 (by omega)) (by omega), below4 HS.out.2 (Nat.le_succ _)⟩
          · have t1 : (0 : Int) < (l.length : Int) := by omega
            have t2 : decide ((0 : Int) < (l.length : Int)) = true := decide_eq_true t1
            have t3 : decide (0 < l.length) = true := decide_eq_true h
            rcases Nat.eq_zero_or_pos rr with h0 | h0
            · have t4 : ¬ (0 : Int) < (rr : Int) := by omega
              have t5 : decide ((0 : Int) < (rr : Int)) = false := decide_eq_false t4
              have t6 : decide (0 < rr) = false := decide_eq_false (by omega)
              go_wp2_with fail
              have hz := set4 (v0 := .int .i64 kd) (v1 := .int .i64 tk) (v2 := .string (shortT tx)) (v3 := .slice none 0 0) e1
              have s0 := Lib.cell_of_heap hz 0
              have s1 := Lib.cell_of_heap hz 1
              have s2 := Lib.cell_of_heap hz 2
              have s3 := Lib.cell_of_heap hz 3
              refine bodyPost_ret (by simp [results, Tryd.f77, go_sem, s0, s1, s2, s3]; try rfl) rfl ?_
              rw [HCU.out]
              try simp only []
              exact ⟨_, by first | rfl | (rw [h0]; rfl), HS.out.1.node (B := w.heap.size) (by rw [size4]; exact Nat.le_refl _) (fun b h1 h2 => other4 (by omega)) (by omega), below4 HS.out.2 (Nat.le_succ _)⟩
            · have t4 : (0 : Int) < (rr : Int) := by omega
              have t5 : decide ((0 : Int) < (rr : Int)) = true := decide_eq_true t4
              have t6 : decide (0 < rr) = true := decide_eq_true h0
              go_wp2_with fail
              have hz := set4 (v0 := .int .i64 kd) (v1 := .int .i64 tk) (v2 := .string (shortT tx)) (v3 := .slice none 0 0) e1
              have s0 := Lib.cell_of_heap hz 0
              have s1 := Lib.cell_of_heap hz 1
              have s2 := Lib.cell_of_heap hz 2
              have s3 := Lib.cell_of_heap hz 3
              refine bodyPost_ret (by simp [results, Tryd.f77, go_sem, s0, s1, s2, s3]; try rfl) rfl ?_
              rw [HCU.out]
              try simp only []
              exact ⟨_, rfl, HS.out.1.node (B := w.heap.size) (by rw [size4]; exact Nat.le_refl _) (fun b h1 h2 => other4 (by omega)) (by omega), below4 HS.out.2 (Nat.le_succ _)⟩
end Go.Proofs.YtpjlgahbbmlngaaDoor

namespace Go.Proofs.YtpjlgahbbmlngaaDoor
set_option linter.unusedVariables false
set_option linter.unusedSimpArgs false
open Go Go.RowKit

/-- a copy that is not large -/
def cutM (most : Nat) (n : Nd) : Nd := (cutN n most 0).1
theorem cutNd_eq (n : Nd) : cutNd n = cutM 600 n := rfl
abbrev zeroCells : Array Value := #[.int .i64 0, .int .i64 0, .string { data := #[] }, .slice none 0 0]
abbrev ndCells (n : Nd) (A : Option Addr) (c : Nat) : Array Value := #[.int .i64 n.kind, .int .i64 n.tok.1, .string n.tok.2, .slice A n.kids.length c]
/-- the world in which a result's cells are set -/
theorem res_set {w w1 : World} {b : Nat} {n z : Nd} {A' : Option Addr} {c' : Nat} (hb : w1.heap[b]? = some (.cells zeroCells 26 (0, 0))) :
    ∃ W, W = ((((w1.setCell ⟨b, 0, none⟩ (.int .i64 z.kind)).setCell ⟨b, 1, none⟩ (.int .i64 z.tok.1)).setCell ⟨b, 2, none⟩ (.string z.tok.2)).setCell ⟨b, 3, none⟩ (.slice A' z.kids.length c')) ∧
      W.cell? ⟨b, 0, none⟩ = some (.int .i64 z.kind) ∧ W.cell? ⟨b, 1, none⟩ = some (.int .i64 z.tok.1) ∧ W.cell? ⟨b, 2, none⟩ = some (.string z.tok.2) ∧ W.cell? ⟨b, 3, none⟩ = some (.slice A' z.kids.length c') := by
  have h := set4 (v0 := .int .i64 z.kind) (v1 := .int .i64 z.tok.1) (v2 := .string z.tok.2) (v3 := .slice A' z.kids.length c') hb
  exact ⟨_, rfl, Lib.cell_of_heap h 0, Lib.cell_of_heap h 1, Lib.cell_of_heap h 2, Lib.cell_of_heap h 3⟩

set_option maxRecDepth 100000 in
set_option maxHeartbeats 2000000 in
theorem RCutAll_any (most : Nat) (hm1 : 1 ≤ most) (hm6 : most ≤ 600) (n : Nd) (v : Value) (w : World) (hraw : rawN n) (hV : NodeV w v n) :
    Calls Tryd.prog 51 #[v, .int .i64 (most : Nat)] w fun e w' => ∃ v', e = .returned v' ∧ NodeP (fun b => w.heap.size ≤ b) w' v' (cutM most n) ∧ Below w.heap.size w w' := by
  have hV0 := hV
  obtain ⟨A, c, rfl, hk⟩ := hV
  have hB0 : Below w.heap.size w ((w.alloc (.cells (ndCells n A c) 26)).alloc (.cells zeroCells 26)) := ((Below.refl _ _).alloc (Nat.le_refl _) _).alloc (by simp) _
  have hcl := RCut_any (deepN n + 1) n most 0 _ ((w.alloc (.cells (ndCells n A c) 26)).alloc (.cells zeroCells 26)) (Nat.lt_succ_self _) hm1 hm6 (by decide) hraw (hV0.below hB0)
  have hz : ((w.alloc (.cells (ndCells n A c) 26)).alloc (.cells zeroCells 26)).heap[w.heap.size + 1]? = some (.cells zeroCells 26 (0, 0)) := alloc_at _ _ _ (by simp)
  have hsz : ((w.alloc (.cells (ndCells n A c) 26)).alloc (.cells zeroCells 26)).heap.size = w.heap.size + 2 := by simp
  unfold cutM
  generalize (cutN n most 0).1 = z at hcl ⊢
  generalize (cutN n most 0).2 = r at hcl
  have HC := Lib.hid hcl
  have HB := Lib.hid (show _ ∧ _ ∧ _ from ⟨hB0, hz, hsz⟩)
  clear hcl hB0 hz hsz hk hV0 hraw
  go_enter Tryd.func51, Tryd.ntmps51
  go_wp2_with (go_at_call 77; refine HC.out.mono ?_; rintro e w1 ⟨v', rfl, ⟨A', c', rfl, hcc, hk⟩, hb1⟩; have hs1 := hb1.size; rw [HB.out.2.2] at hs1; have hbk := (hb1.block (w.heap.size + 1) (by rw [HB.out.2.2]; exact Nat.lt_succ_self _)).trans HB.out.2.1; have p0 := Lib.cell_of_heap hbk 0; have p1 := Lib.cell_of_heap hbk 1; have p2 := Lib.cell_of_heap hbk 2; have p3 := Lib.cell_of_heap hbk 3; have f0 := frozen_block (j := 0) hbk; have f1 := frozen_block (j := 1) hbk; have f2 := frozen_block (j := 2) hbk; have f3 := frozen_block (j := 3) hbk; have hlt1 : w.heap.size + 1 < w1.heap.size := hs1; have hne1 : w.heap.size + 1 ≠ w1.heap.size := Nat.ne_of_lt hlt1; have HK := Lib.hid (show _ ∧ _ ∧ _ from ⟨hk, hb1, hbk⟩); clear hk hb1 hbk)
  have hF := set4 (v0 := .int .i64 z.kind) (v1 := .int .i64 z.tok.1) (v2 := .string z.tok.2) (v3 := .slice A' z.kids.length c') HK.out.2.2
  obtain ⟨W, hW⟩ : ∃ W, W = (((((w1.setCell ⟨w.heap.size + 1, 0, none⟩ (.int .i64 z.kind)).setCell ⟨w.heap.size + 1, 1, none⟩ (.int .i64 z.tok.1)).setCell ⟨w.heap.size + 1, 2, none⟩ (.string z.tok.2)).setCell ⟨w.heap.size + 1, 3, none⟩ (.slice A' z.kids.length c')).alloc (.cells #[.int .i64 z.kind, .int .i64 z.tok.1, .string z.tok.2, .slice A' z.kids.length c'] 26)) := ⟨_, rfl⟩
  rw [← hW]
  have hold : ∀ b, b < w1.heap.size → b ≠ w.heap.size + 1 → W.heap[b]? = w1.heap[b]? := fun b h1 h2 => by rw [hW]; exact (alloc_old _ _ _ (by rw [size4]; exact h1)).trans (other4 h2)
  have hA : W.heap[w.heap.size + 1]? = some (.cells #[.int .i64 z.kind, .int .i64 z.tok.1, .string z.tok.2, .slice A' z.kids.length c'] 26 (0, 0)) := by rw [hW]; exact (alloc_old _ _ _ (by rw [size4]; exact hlt1)).trans hF
  have hsW : W.heap.size = w1.heap.size + 1 := by rw [hW, World.size_alloc, size4]
  have hBW : Below w.heap.size w W := by
    rw [hW]
    exact (below4 (HB.out.1.trans (HK.out.2.1.mono (by rw [HB.out.2.2]; omega))) (Nat.le_succ _)).alloc (by rw [size4]; omega) _
  have q0 := Lib.cell_of_heap hA 0
  have q1 := Lib.cell_of_heap hA 1
  have q2 := Lib.cell_of_heap hA 2
  have q3 := Lib.cell_of_heap hA 3
  refine bodyPost_ret (by simp [results, Tryd.f51, go_sem, q0, q1, q2, q3]; try rfl) rfl ?_
  exact ⟨_, rfl, ⟨A', c', rfl, hcc, HK.out.1.kept (by omega) (fun b hp hb => hold b hb (by rw [HB.out.2.2] at hp; omega)) (fun b hp _ => by rw [HB.out.2.2] at hp; omega)⟩, hBW⟩

set_option maxRecDepth 100000 in
set_option maxHeartbeats 2000000 in
theorem Cut_any (n : Nd) (v : Value) (w : World) (hraw : rawN n) (hV : NodeV w v n) :
    Calls Tryd.prog 15 #[v] w fun e w' => ∃ v', e = .returned v' ∧ NodeP (fun b => w.heap.size ≤ b) w' v' (cutM 600 n) ∧ Below w.heap.size w w' := by
  have hV0 := hV
  obtain ⟨A, c, rfl, hk⟩ := hV
  have hB0 : Below w.heap.size w ((w.alloc (.cells (ndCells n A c) 26)).alloc (.cells zeroCells 26)) := ((Below.refl _ _).alloc (Nat.le_refl _) _).alloc (by simp) _
  have hcl := RCutAll_any 600 (by decide) (by decide) n _ ((w.alloc (.cells (ndCells n A c) 26)).alloc (.cells zeroCells 26)) hraw (hV0.below hB0)
  have hz : ((w.alloc (.cells (ndCells n A c) 26)).alloc (.cells zeroCells 26)).heap[w.heap.size + 1]? = some (.cells zeroCells 26 (0, 0)) := alloc_at _ _ _ (by simp)
  have hsz : ((w.alloc (.cells (ndCells n A c) 26)).alloc (.cells zeroCells 26)).heap.size = w.heap.size + 2 := by simp
  generalize cutM 600 n = z at hcl ⊢
  have HC := Lib.hid hcl
  have HB := Lib.hid (show _ ∧ _ ∧ _ from ⟨hB0, hz, hsz⟩)
  clear hcl hB0 hz hsz hk hV0 hraw
  go_enter Tryd.func15, Tryd.ntmps15
  go_wp2_with (go_at_call 51; refine HC.out.mono ?_; rintro e w1 ⟨v', rfl, ⟨A', c', rfl, hcc, hk⟩, hb1⟩; have hs1 := hb1.size; rw [HB.out.2.2] at hs1; have hbk := (hb1.block (w.heap.size + 1) (by rw [HB.out.2.2]; exact Nat.lt_succ_self _)).trans HB.out.2.1; have p0 := Lib.cell_of_heap hbk 0; have p1 := Lib.cell_of_heap hbk 1; have p2 := Lib.cell_of_heap hbk 2; have p3 := Lib.cell_of_heap hbk 3; have f0 := frozen_block (j := 0) hbk; have f1 := frozen_block (j := 1) hbk; have f2 := frozen_block (j := 2) hbk; have f3 := frozen_block (j := 3) hbk; have HK := Lib.hid (show _ ∧ _ ∧ _ from ⟨hk, hb1, hbk⟩); clear hk hb1 hbk)
  have hF := set4 (v0 := .int .i64 z.kind) (v1 := .int .i64 z.tok.1) (v2 := .string z.tok.2) (v3 := .slice A' z.kids.length c') HK.out.2.2
  obtain ⟨W, hW⟩ : ∃ W, W = ((((w1.setCell ⟨w.heap.size + 1, 0, none⟩ (.int .i64 z.kind)).setCell ⟨w.heap.size + 1, 1, none⟩ (.int .i64 z.tok.1)).setCell ⟨w.heap.size + 1, 2, none⟩ (.string z.tok.2)).setCell ⟨w.heap.size + 1, 3, none⟩ (.slice A' z.kids.length c')) := ⟨_, rfl⟩
  rw [← hW] at hF ⊢
  have hold : ∀ b, b ≠ w.heap.size + 1 → W.heap[b]? = w1.heap[b]? := fun b h2 => by rw [hW]; exact other4 h2
  have hsW : W.heap.size = w1.heap.size := by rw [hW, size4]
  have hBW : Below w.heap.size w W := by
    rw [hW]
    exact below4 (HB.out.1.trans (HK.out.2.1.mono (by rw [HB.out.2.2]; omega))) (Nat.le_succ _)
  have q0 := Lib.cell_of_heap hF 0
  have q1 := Lib.cell_of_heap hF 1
  have q2 := Lib.cell_of_heap hF 2
  have q3 := Lib.cell_of_heap hF 3
  refine bodyPost_ret (by simp [results, Tryd.f15, go_sem, q0, q1, q2, q3]; try rfl) rfl ?_
  exact ⟨_, rfl, ⟨A', c', rfl, hcc, HK.out.1.kept (by omega) (fun b hp hb => hold b (by rw [HB.out.2.2] at hp; omega)) (fun b hp _ => by rw [HB.out.2.2] at hp; omega)⟩, hBW⟩
end Go.Proofs.YtpjlgahbbmlngaaDoor
