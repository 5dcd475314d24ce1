/-
  Walks of trees: tree.walk$1 as an iterator.; Trees: slices.Clone of ints.; Trees: the spans of all nodes: mathematics.
-/
import Derived.Test.YtpjlgahbbmlngaaDoorTreeLeavesp6
import Derived.Sort.LoopGhostIn
import Derived.WalkMore
import Derived.Deep.RegionHeld3
import Derived.ProofKit
import Derived.Shelf.Abstract
import Derived.Shelf.RegionOpen
import Derived.WalkKit
import Derived.OwnWalkIn
import Derived.TacticsInMore
import Derived.LoopNIn
import Derived.LoopIn
import Derived.BigRegionIn
import Derived.WalkSpells
namespace Go.Proofs.YtpjlgahbbmlngaaDoor
set_option linter.unusedVariables false
set_option linter.unusedSimpArgs false
open Go Go.RowKit

attribute [local go_sem] Oper.semAt_some

theorem wpListIn_append_lies {F : Fence} {n : Nat} {P : Program} (w : World) {ops : Array Oper} {rest : List Oper} {o : Oper} {a : Act} {Q : Exit → Act → World → Prop}
    (hg : o.guard = none) (s x : Operand) (t : TypeId) (hop : o.op = Op.call { callee := Callee.builtin Builtin.append, args := #[s, x], argTypes := #[t, t] })
    (base : Nat) (e : TypeId) (i : TypeInfo) (z : Value) (size bytes : Nat) (h1 : P.underlying t = some (.slice e)) (h2 : P.info? e = some i) (h3 : i.zero = some z) (h4 : i.size = size) (h5 : i.bytes = bytes) (h6 : z.cells.size = size) (h7 : 0 < size)
    (v : Value) (k : Nat) (xs : List Value) (hs : a.eval s = v) (hown : w.ownsRow base e size v k xs) (ad : Addr) (m c : Nat) (news : List Value) (hx : a.eval x = .slice (some ad) m c) (hn : news.length = m * size)
    (hc : ∀ j u, news[j]? = some u → w.cell? (ad.add j) = some u) (h1c : ∀ u ∈ news, u.oneCell' = true) (hm : 0 < m) (b1 : k + m ≤ maxLen) (b2 : (k + m) * bytes ≤ 140737488355328) (b3 : base ≤ w.heap.size) (H : Nat) (hH : w.heap.size = H)
    (hK : ∀ g cap w', w'.ownsRow base e size (.slice (some ⟨g, 0, none⟩) (k + m) cap) (k + m) (xs ++ news) → w.grownBy w' v.ownBlock → (v.ownBlock = some g ∨ g = H) → g < w'.heap.size → wpListIn F n P ops Q rest (a.put o.dst (.slice (some ⟨g, 0, none⟩) (k + m) cap)) w') :
    wpListIn F n P ops Q (o :: rest) a w := by
  refine wpListIn_plain hg fun K hK' => ?_
  obtain ⟨g, cap, w', hrun, r1, r2, r3, r4⟩ := run_append_lies (P := P) w t o.type base e i z size bytes h1 h2 h3 h4 h5 h6 h7 v k xs hown ad m c news hn hc h1c hm b1 b2 b3 H hH
  unfold Oper.wpIn
  refine ⟨?_, ?_⟩
  · simp [Oper.about, hop, resolve, Target.leads, Sem.run_pure]
  · rw [Oper.semAt_plain F _ _ (by rw [hop]; intro c hc'; cases hc')]
    simp [execOp, hop, resolve, invoke, builtin, hs, hx, hrun, Result.andThen]
    exact hK' _ _ (hK g cap w' r1 r2 r3 r4)

theorem infoInt : (Tryd.prog.info? 3).map (fun i => (i.zero, i.size, i.bytes)) = some (some (.int .i64 0), 1, 8) := by kernel_rfl
theorem cut_row (W : World) (t e s g n cap d : Nat) (hund : Tryd.prog.underlying t = some (.slice (Tryd.prog.elem t))) (hsz : ∀ w, (Go.sizeOf (Tryd.prog.elem t)).run Tryd.prog w = .ok s w) (hd : d + 1 ≤ cap) :
    (Instr.slice t (.slice (some ⟨g, 0, none⟩) n cap) none (some (.int .i64 ((d : Int) + 1))) none).run Tryd.prog W = .ok (.slice (some ⟨g, 0, none⟩) (d + 1) cap) W := by
  rw [run_slice_h W t _ _ _ hund .i64 _ (by omega) (by omega), hsz]
  simp [Result.andThen, sliced, Addr.add]

theorem own_le {w : World} {base base' size n e : Nat} {v : Value} {xs : List Value} (h : w.ownsRow base e size v n xs) (hb : base' ≤ base) : w.ownsRow base' e size v n xs := by
  refine ⟨h.1, ?_⟩
  rcases h.2 with hn | ⟨g, cap, cur, hv, h1, rest⟩
  · exact .inl hn
  · exact .inr ⟨g, cap, cur, hv, Nat.le_trans hb h1, rest⟩
theorem w64 (n : Int) (h0 : 0 ≤ n) (h1 : n ≤ 1000000000) : wrap64 n = n := by unfold wrap64; omega
theorem undInts : Tryd.prog.underlying 51 = some (.slice (Tryd.prog.elem 51)) := by
  rw [show Tryd.prog.elem 51 = 3 by simp [Program.elem, Tryd.underlying51]]; exact Tryd.underlying51
theorem sizeInts : ∀ w, (Go.sizeOf (Tryd.prog.elem 51)).run Tryd.prog w = .ok 1 w := by
  rw [show Tryd.prog.elem 51 = 3 by simp [Program.elem, Tryd.underlying51]]; exact fun w => Tryd.sizeOf3 w
theorem undNodes : Tryd.prog.underlying 24 = some (.slice (Tryd.prog.elem 24)) := by
  rw [show Tryd.prog.elem 24 = 26 by simp [Program.elem, Tryd.underlying24]]; exact Tryd.underlying24
theorem sizeNodes : ∀ w, (Go.sizeOf (Tryd.prog.elem 24)).run Tryd.prog w = .ok 4 w := by
  rw [show Tryd.prog.elem 24 = 26 by simp [Program.elem, Tryd.underlying24]]; exact fun w => Tryd.sizeOf26 w
theorem w64a {a c : Nat} (h : a < c) (hc : c ≤ 10000000) : wrap64 ((a : Int) + 1) = (a : Int) + 1 := by unfold wrap64; omega
theorem w64b {a b c : Nat} (h : a ≤ b) (h' : b < c) (hc : c ≤ 10000000) : wrap64 (a : Int) = (a : Int) := by unfold wrap64; omega
theorem w64c {a c : Nat} (h : a < c) (hc : c ≤ 10000000) : wrap64 ((a : Int) - 1) = (a : Int) - 1 := by unfold wrap64; omega
theorem w64d {a c : Nat} (h : a < c) (hc : c ≤ 10000000) : IntKind.i64.wrap ((a : Int) + 1) = (a : Int) + 1 := by rw [IntWalk.i64_in _ (by omega)]
theorem lt4 {a b : Nat} (h : a < b) : a * 4 + 3 < b * 4 := by omega
theorem le1 {a b c : Nat} (h : a + 1 + b ≤ c) : a + 1 ≤ c := by omega
theorem app1 {a c : Nat} (h : a < c) (hc : c ≤ 10000000) : a + 1 + 1 ≤ maxLen ∧ (a + 1 + 1) * 56 ≤ 140737488355328 := by unfold maxLen; omega
theorem ne_of_lt_le {a b c : Nat} (h : a < b) (h' : b ≤ c) : a ≠ c := by omega
def sizeN (T : Nd) : Prop := countN T ≤ 10000000
theorem own_slice {w : World} {base size n e : Nat} {v : Value} {xs : List Value} (h : w.ownsRow base e size v n xs) : ∃ a c, v = .slice a n c := by
  rcases h.2 with ⟨rfl, rfl⟩ | ⟨g, cap, cur, rfl, _⟩
  · exact ⟨none, 0, rfl⟩
  · exact ⟨some ⟨g, 0, none⟩, cap, rfl⟩

set_option maxRecDepth 100000 in
set_option maxHeartbeats 2000000 in
theorem walk1_gives (w0 : World) (T : Nd) (hC : sizeN T) (b : Nat) (A : Option Addr) (c : Nat) (m : Nat) (hm : 1 ≤ m) (w : World) (hw0 : Below w0.heap.size w0 w) (hb : b < w.heap.size)
    (c0 : w.cell? ⟨b, 0, none⟩ = some (.int .i64 T.kind)) (c1 : w.cell? ⟨b, 1, none⟩ = some (.int .i64 T.tok.1)) (c2 : w.cell? ⟨b, 2, none⟩ = some (.string T.tok.2)) (c3 : w.cell? ⟨b, 3, none⟩ = some (.slice A T.kids.length c)) (hk : KidsV w0 A T.kids) :
    Gives Fence.wide m Tryd.prog 84 #[.pointer (some ⟨b, 0, none⟩)] (EnW w0) w0.heap.size (walkN [] T) w := by
  intro l J Jx W hW hJ hJx hY h0
  rw [← hW.cell hb] at c0 c1 c2 c3
  have hst := WalkSt.first (w0 := w0) (T := T) (base := W.heap.size) (A := A) (c := c) hJ h0 hk (Nat.le_refl _)
  have hB0 := hw0.trans (hW.mono hw0.size)
  have HX := Lib.hid (And.intro hst (And.intro hY (And.intro hB0 (And.intro hC hk))))
  clear hst hY hB0 hC hk
  refine callsIn_wide.2 ?_
  go_enter Tryd.func84, Tryd.ntmps84
  go_step3
  go_wp2_with fail
  go_step3
  go_wp2_with fail
  go_loopg [3, 4] (countN T) (fun g s3 s4 wr => ∃ (p : List Nat) (x : Nd) (path : List Pn) (k : Nat), k + g = countN T ∧ WalkSt w0 T W.heap.size J wr k p x path s3 s4 ∧ Below w0.heap.size w0 wr ∧ W.heap.size ≤ wr.heap.size)
  case atStart => exact ⟨[], T, [(T, A, c)], 0, by omega, HX.out.1, HX.out.2.2.1.alloc (Nat.le_trans hw0.size hW.size) _, by simp⟩
  case round =>
    obtain ⟨p, x, path, k, hkg, hst, hB, hsz⟩ := hrel
    obtain ⟨hst0, hY, hB0, hC, hk⟩ := HX.out
    have hel := hst.elem
    have hkl : k < countN T := by
      have := (List.getElem?_eq_some_iff.1 hel.1).1
      rwa [walkN_length] at this
    obtain ⟨a0, cp, hpv⟩ := own_slice hst.pos
    obtain ⟨gq, cq, hqv, _, hgq⟩ := hst.row.form (by rw [hst.plen]; omega)
    obtain ⟨⟨y, A', c'⟩, hy⟩ : ∃ y, path[p.length]? = some y := ⟨_, List.getElem?_eq_getElem (by rw [hst.plen]; omega)⟩
    obtain ⟨e1, hkv⟩ := hst.nodes p.length _ hy
    rw [List.take_length, hst.at_] at e1
    obtain rfl := Option.some.inj e1
    obtain ⟨p0, p1, p2, p3⟩ := pathCells_get path p.length _ hy
    have hrow := hst.row
    subst hqv
    have q0 := (hrow.cellAt (p.length * 4) (by rw [hst.plen]; omega)).trans p0
    have q1 := (hrow.cellAt (p.length * 4 + 1) (by rw [hst.plen]; omega)).trans p1
    have q2 := (hrow.cellAt (p.length * 4 + 2) (by rw [hst.plen]; omega)).trans p2
    have q3 := (hrow.cellAt (p.length * 4 + 3) (by rw [hst.plen]; omega)).trans p3
    subst hpv
    obtain ⟨fn, tmps, assign, body, hy1, hR⟩ := hY k _ wr #[.slice a0 p.length cp, .agg #[.int .i64 x.kind, .int .i64 x.tok.1, .string x.tok.2, .slice A' x.kids.length c']] (p, x) hst.inv
      (fun b hb => hb.elim (fun h => (hst.pos.lt b h).2) (fun h => (hst.row.lt b h).2)) hel.1 ⟨_, A', c', rfl, hkv, own_le hst.pos (Nat.zero_le _), fun g hg => .inl hg⟩
    have hpl : path.length = p.length + 1 := hst.plen
    have HS := Lib.hid (And.intro hst (And.intro hB (And.intro hsz (And.intro hkg (And.intro hel (And.intro hkl hkv))))))
    clear hst hB hsz hkg hel hkl hkv hst0 hY hB0 hC hk hrow p0 p1 p2 p3 hy
    rw [hpl]
    have hb1 : decide ((p.length : Int) < ((p.length + 1 : Nat) : Int)) = true := decide_eq_true (by omega)
    refine (wpIn_wide (n := m)).1 ?_
    gi_step
    gi_step
    gi_wp2
    refine hR.mono ?_
    clear hy1
    rintro e W3 (⟨rfl, hJ3, hk3⟩ | ⟨rfl, hJx3, _⟩)
    · have hpos3 := (HS.out.1.rows hk3).1
      have hrow3 := (HS.out.1.rows hk3).2
      have hpb := (atN_small HS.out.1.at_).1
      have hC := HX.out.2.2.2.1
      have hsz3 := hk3.below.size
      obtain ⟨i0, hi0, hx0⟩ := Option.map_eq_some_iff.1 infoInt
      simp only [Prod.mk.injEq] at hx0
      obtain ⟨hz0, hz1, hz2⟩ := hx0
      have HK := Lib.hid (And.intro hk3 (And.intro hJ3 hrow3))
      clear hk3 hJ3 hrow3
      dsimp only
      iterate 8 gi_step
      refine wpIn_wide.2 ?_
      go_wp2_with (at_builtin; refine wpList_append_lies _ rfl _ _ 51 rfl W.heap.size 3 i0 _ 1 8 Tryd.underlying51 hi0 hz0 hz1 hz2 rfl (by decide) _ _ _ rfl (World.ownsRow.alloc hpos3 _) ⟨W3.heap.size, 0, none⟩ 1 1 [.int .i64 (-1)] rfl rfl ?c1a ?c2a (by decide) ?c3a ?c4a ?c5a (W3.heap.size + 1) (by simp) ?_)
      case c1a => exact cell_one_new _ _ _
      case c2a => intro u hu; simp at hu; subst hu; rfl
      case c3a => unfold sizeN at hC; unfold maxLen; omega
      case c4a => unfold sizeN at hC; omega
      case c5a => have h2 := HS.out.2.2.1; simp; omega
      intro g1 cap1 W5 hown5 hgr5 hl5 hlt5
      have hup := HS.out.1.up hJ (by decide) HK.out.2.2 hpos3 HK.out.2.1 hown5 hgr5 (by simpa using hl5)
      have hB5 : Below w0.heap.size w0 W5 := (HS.out.2.1.trans (HK.out.1.below.alloc (Nat.le_trans HS.out.2.1.size hsz3) _)).trans ((Below.refl _ _).grown hgr5 (by simp; have := HS.out.2.1.size; omega) (fun b hb => Nat.le_trans (Nat.le_trans hw0.size hW.size) (hpos3.lt b hb).1))
      have hs5 : W.heap.size ≤ W5.heap.size := by have h1 := hgr5.size; have h2 := HS.out.2.2.1; simp at h1; omega
      rw [hpl] at hup
      have HU := Lib.hid (And.intro hup (And.intro hB5 hs5))
      have hwr : wrap64 (p.length : Int) = (p.length : Int) := w64 _ (by omega) (by unfold sizeN at hC; omega)
      clear hup hB5 hs5 hown5 hgr5 hl5 hlt5 hpos3 hsz3 hR q0 q1 q2 q3 hgq hb1 hi0 hz0 hz1 hz2 c0 c1 c2 c3 h0 HK
      go_wp2_with fail
      go_loopg [3, 4, 5] (p.length + 1) (fun g s3 s4 s5 wx => (g = 0 ∧ s5 = .int .i64 (-1) ∧ (walkN [] T).drop (k + 1) = [] ∧ (∃ O, J (k + 1) O wx) ∧ Below w0.heap.size w0 wx ∧ W.heap.size ≤ wx.heap.size) ∨
        (∃ (q : List Nat) (i : Nat) (more : List Value) (x' : Nd), g = q.length + 1 ∧ s5 = .int .i64 (q.length : Int) ∧ WalkUp w0 T W.heap.size J wx (k + 1) q i more x' path s3 s4 ∧ Below w0.heap.size w0 wx ∧ W.heap.size ≤ wx.heap.size))
      case atStart => exact .inr ⟨p, 0, [], x, rfl, by rw [hwr], HU.out.1, HU.out.2⟩
      case round =>
        rcases hrel with ⟨rfl, rfl, hend, hjo, hBx, hsx⟩ | ⟨q, i, more, x', rfl, rfl, hwu, hBx, hsx⟩
        · obtain ⟨Oe, hje⟩ := hjo
          have hke : (walkN [] T).length = k + 1 := by
            have h1 := List.drop_eq_nil_iff.1 hend
            have h2 := HS.out.2.2.2.2.2.1
            rw [walkN_length] at h1 ⊢
            omega
          rw [← hke] at hje
          clear hend hBx hsx
          go_wp2_with fail
          rw [Exit.noGoto_ret]
          refine bodyPost_ret (results_none rfl _ _ _) rfl ?_
          exact ⟨⟨_, rfl⟩, .inl ⟨Oe, hje⟩⟩
        · obtain ⟨g, cap, rfl, _, _⟩ := hwu.pos.form (by omega)
          obtain ⟨A2, c2', gq2, cq2, hpath, hkv2, rfl⟩ := hwu.node
          have hqb := (atN_small hwu.at_).1
          have hkb := (atN_small hwu.at_).2
          have hil := hwu.ile
          have hcc := own_cap hwu.pos
          have hpl2 := hwu.plen
          have hcc2 : q.length + 1 ≤ cap := le1 hcc
          have hw1 : wrap64 ((q.length : Int) + 1) = (q.length : Int) + 1 := w64a hqb hC
          have hw2 : wrap64 (i : Int) = (i : Int) := w64b hil hkb hC
          have hw3 : wrap64 ((q.length : Int) - 1) = (q.length : Int) - 1 := w64c hqb hC
          have hd1 : decide ((0 : Int) ≤ (q.length : Int)) = true := decide_eq_true (Int.natCast_nonneg _)
          have q3' := (hwu.row.cellAt (q.length * 4 + 3) (lt4 hpl2)).trans (pathCells_get path q.length _ hpath).2.2.2
          have hfz := hwu.pos.frozenAt q.length
          have hne2 : gq2 ≠ g := by
            have := own_two hwu.row hwu.pos (by decide)
            simpa [Value.ownBlock] using this
          have hne3 : g ≠ gq2 := Ne.symm hne2
          have hcut := fun W' => cut_row W' 51 3 1 g (q.length + 1 + more.length) cap q.length undInts sizeInts hcc2
          have HR := Lib.hid (hwu.raise hJ (by decide) rfl)
          have r4 := HR.out.2.2.2
          have HW := Lib.hid (And.intro hwu (And.intro hBx (And.intro hsx (And.intro hkv2 hpath))))
          have HQ := Lib.hid (show _ ∧ _ ∧ _ from ⟨hqb, hC, hpl2⟩)
          have hpl3 : q.length < path.length := hpl2
          have HPL := Lib.hid hpl
          clear hwu hBx hsx hkv2 hpath hqb hkb hil hcc hcc2 hC hpl2 hpl hwr hpb
          go_wp2_with fail
          · have hik2 : i < x'.kids.length := by assumption
            obtain ⟨hqb, hC, hpl2⟩ := HQ.out
            have hik : (i : Int) < (x'.kids.length : Int) := Int.ofNat_lt.2 hik2
            have hdi : decide ((i : Int) < (x'.kids.length : Int)) = true := decide_eq_true hik
            obtain ⟨kid, hkid⟩ : ∃ kid, x'.kids[i]? = some kid := ⟨_, List.getElem?_eq_getElem hik2⟩
            obtain ⟨hwu, hBx, hsx, hkv2, hpath⟩ := HW.out
            obtain ⟨r1, r2, r3, _⟩ := HR.out
            obtain ⟨bb, oo, rfl, hnd⟩ := hkv2 (Nat.lt_of_le_of_lt (Nat.zero_le _) hik2)
            obtain ⟨Ak, ck, hbb, k0, k1, k2, k3, hkk⟩ := hnd.get hkid
            obtain ⟨W1, hW1⟩ : ∃ W1, W1 = wr.setCell ⟨g, q.length, none⟩ (.int .i64 i) := ⟨_, rfl⟩
            rw [← hW1] at r1 r2 r3
            have hn0 : w0.heap.size ≤ W.heap.size := Nat.le_trans hw0.size hW.size
            have hB1 : Below w0.heap.size w0 W1 := by
              rw [hW1]; exact hBx.setCell (p := ⟨g, q.length, none⟩) (Nat.le_trans hn0 (hwu.pos.lt g rfl).1) _
            have hs1 : W.heap.size ≤ W1.heap.size := by rw [hW1]; simpa using hsx
            rw [← hB1.cell hbb] at k0 k1 k2 k3
            have d57 : W1.cell? ⟨g, q.length, none⟩ = some (.int .i64 i) := by
              rw [r1.cellAt q.length (by simp)]; simp [intCells]
            have hrow2 := own_take r2 (m := q.length + 1) hpl2
            rw [pathCells_take] at hrow2
            have hbg : w0.heap.size ≤ gq2 := Nat.le_trans hn0 (r2.lt gq2 rfl).1
            have hgs : g < W1.heap.size := (r1.lt g rfl).2
            have hbs : bb < W1.heap.size := Nat.lt_of_lt_of_le hbb hB1.size
            have hcut2 := fun W' => cut_row W' 24 26 4 gq2 path.length cq2 q.length undNodes sizeNodes (Nat.le_trans hpl2 (own_cap r2))
            have hcq : q.length + 1 ≤ cq2 := Nat.le_trans hpl2 (own_cap r2)
            have hcqI : (q.length : Int) + 1 ≤ (cq2 : Int) := by omega
            have hcq0 : (0 : Int) ≤ (q.length : Int) + 1 := by omega
            have hcw : IntKind.i64.wrap ((q.length : Int) + 1) = (q.length : Int) + 1 := w64d hqb hC
            have hx0 : (0 : Int) ≤ (q.length : Int) := Int.natCast_nonneg _
            have hx2 : (q.length : Int) < ((q.length + 1 : Nat) : Int) := by omega
            have hx3 : (q.length : Int) < (q.length : Int) + 1 := by omega
            have hx4 : (0 : Int) ≤ (i : Int) := Int.natCast_nonneg _
            obtain ⟨i1, hi1, hx1⟩ := Option.map_eq_some_iff.1 infoNode
            simp only [Prod.mk.injEq] at hx1
            obtain ⟨hz3, hz4, hz5⟩ := hx1
            have hneA : some g ≠ (Value.slice (some ⟨gq2, 0, none⟩) (q.length + 1) cq2).ownBlock := by simp [Value.ownBlock]; exact hne3
            have hneB : some bb ≠ (Value.slice (some ⟨gq2, 0, none⟩) (q.length + 1) cq2).ownBlock := by simp [Value.ownBlock]; exact ne_of_lt_le hbb hbg
            have hap := app1 hqb hC
            have HV := Lib.hid (show _ ∧ _ ∧ _ ∧ _ ∧ _ ∧ _ ∧ _ ∧ _ ∧ _ from ⟨hwu, hB1, hs1, r1, r2, r3, hkid, hkk, hneB⟩)
            have hs9 : W.heap.size ≤ (W1.alloc (.cells #[.int .i64 kid.kind, .int .i64 kid.tok.1, .string kid.tok.2, .slice Ak kid.kids.length ck] 26)).heap.size := by simp; omega
            rw [← hW1]
            clear hwu hBx hsx hkv2 r1 r2 r3 hpath hnd hbb hW1 HW hB1 HR
            go_region_held3 (fun w' => w'.cell? ⟨g, q.length, none⟩ = some (.int .i64 i) ∧ w'.cell? ⟨bb, oo + i * 4, none⟩ = some (.int .i64 kid.kind) ∧ w'.cell? ⟨bb, oo + i * 4 + 1, none⟩ = some (.int .i64 kid.tok.1) ∧ w'.cell? ⟨bb, oo + i * 4 + 2, none⟩ = some (.string kid.tok.2) ∧ w'.cell? ⟨bb, oo + i * 4 + 3, none⟩ = some (.slice Ak kid.kids.length ck))
              (first
                | go_keep
                | (go_split_ands
                   refine ⟨?_, ?_, ?_, ?_, ?_⟩
                   · (rw [hgr9.cell_far _ (by simp; try omega) hneA]; assumption)
                   · (rw [hgr9.cell_far _ (by simp; try omega) hneB]; assumption)
                   · (rw [hgr9.cell_far _ (by simp; try omega) hneB]; assumption)
                   · (rw [hgr9.cell_far _ (by simp; try omega) hneB]; assumption)
                   · (rw [hgr9.cell_far _ (by simp; try omega) hneB]; assumption)))
              ((refine step_append_lies _ (by rfl) _ _ _ (by rfl) W.heap.size 26 i1 _ 4 56 Tryd.underlying24 hi1 hz3 hz4 hz5 rfl (by omega) (.slice (some ⟨gq2, 0, none⟩) (q.length + 1) cq2) (q.length + 1) (pathCells (path.take (q.length + 1))) (by rfl) ((World.ownsRow.alloc hrow2 _).drew)
                  ⟨W1.heap.size, 0, none⟩ 1 1 (cells4 (kid, Ak, ck)) (by rfl) (by rfl) (World.news_of_block (cs := #[.int .i64 kid.kind, .int .i64 kid.tok.1, .string kid.tok.2, .slice Ak kid.kids.length ck]) (t := 26) (fr := (0, 0)) (World.alloc_heap_new W1 _)) (by simp [cells4, Value.oneCell'])
                  (by decide) hap.1 hap.2 hs9 (W1.heap.size + 1) (by simp) ?_; intro g9 cap9 W9 hown9 hgr9 hat9 hlt9))
            obtain ⟨hwu, hB1, hs1, r1, r2, r3, hkid', hkk', _⟩ := HV.out
            have hgr0 : (W1.alloc (.cells #[.int .i64 kid.kind, .int .i64 kid.tok.1, .string kid.tok.2, .slice Ak kid.kids.length ck] 26)).grownBy W9 (some gq2) := ⟨hgr9.os, hgr9.tape, hgr9.output, hgr9.size, hgr9.block⟩
            have hst9 := hwu.down (kid := kid) hJ (by decide) rfl hkid' hkk' r1 r2 r3 hown9 hgr0 (by
              rcases hat9 with h | h
              · simp only [Value.ownBlock, Option.some.injEq] at h; exact .inl h
              · exact .inr (by rw [h]; simp))
            have hB9 : Below w0.heap.size w0 W9 := (hB1.alloc (Nat.le_trans hn0 hs1) _).grown hgr0 (by have := Nat.le_trans hn0 hs1; simp; omega) (fun b hb => by cases hb; exact hbg)
            have hs9' : W.heap.size ≤ W9.heap.size := Nat.le_trans hs9 hgr0.size
            have HZ := Lib.hid (show _ ∧ _ ∧ _ from ⟨hst9, hB9, hs9'⟩)
            clear hst9 hB9 hs9' hgr0 hgr9 hown9 hat9 hlt9 hB1 hs1 r1 r2 r3 hwu hkid' hkk' HV k0 k1 k2 k3 d57 hrow2
            go_wp2_with fail
            go_roundg (countN T - (k + 1))
            case measure => have h1 := HS.out.2.2.2.1; have h2 := HS.out.2.2.2.2.2.1; omega
            case rel => exact ⟨q ++ [i], kid, _, k + 1, by have h2 := HS.out.2.2.2.2.2.1; omega, HZ.out.1, HZ.out.2⟩
          · go_roundg q.length
            case measure => exact Nat.lt_succ_self _
            case rel =>
              obtain ⟨hwu, hBx, hsx, hkv2, hpath⟩ := HW.out
              obtain ⟨r1, r2, r3, _⟩ := HR.out
              have hno : x'.kids.length ≤ i := Nat.le_of_not_lt (by assumption)
              have hB1 : Below w0.heap.size w0 (wr.setCell ⟨g, q.length, none⟩ (.int .i64 i)) := hBx.setCell (p := ⟨g, q.length, none⟩) (Nat.le_trans (Nat.le_trans hw0.size hW.size) (hwu.pos.lt g rfl).1) _
              have hs1 : W.heap.size ≤ (wr.setCell ⟨g, q.length, none⟩ (.int .i64 i)).heap.size := by simpa using hsx
              rcases hwu.back hno r1 r2 r3 with ⟨rfl, he⟩ | ⟨q', j, y, rfl, hb4⟩
              · exact .inl ⟨rfl, rfl, he, ⟨_, r3⟩, hB1, hs1⟩
              · exact .inr ⟨q', j + 1, _, y, by simp, by simp, hb4, hB1, hs1⟩
    · have hkl2 : k + 1 ≤ (walkN [] T).length := by rw [walkN_length]; exact HS.out.2.2.2.2.2.1
      clear hR q0 q1 q2 q3 hgq hb1
      dsimp only
      iterate 8 gi_step
      rw [Exit.noGoto_normal]
      go_end0
      exact ⟨⟨_, rfl⟩, .inr ⟨k + 1, _, hkl2, hJx3⟩⟩
end Go.Proofs.YtpjlgahbbmlngaaDoor

namespace Go.Proofs.YtpjlgahbbmlngaaDoor
set_option linter.unusedVariables false
set_option linter.unusedSimpArgs false
open Go Go.RowKit

mutual
theorem atN_small_len : ∀ n : Nd, deepN n < countN n
  | .mk k t l => by
    have := deepL_le l
    simp only [deepN, countN]; omega
theorem deepL_le : ∀ l : List Nd, deepL l ≤ countL l
  | [] => Nat.zero_le _
  | n :: l => by
    have h1 := atN_small_len n
    have h2 := deepL_le l
    simp only [deepL, countL]; omega
end

set_option maxRecDepth 100000 in
theorem CloneInts_any (ps : List Nat) (pv : Value) (w : World) (hs : ps.length ≤ 10000000) (h : w.ownsRow 0 3 1 pv ps.length (intCells ps)) :
    Calls Tryd.prog 74 #[pv] w fun e w' => ∃ v', e = .returned v' ∧ w'.ownsRow w.heap.size 3 1 v' ps.length (intCells ps) ∧ Below w.heap.size w w' := by
  rcases h.2 with ⟨rfl, hn⟩ | ⟨g, cap, cur, rfl, _, _⟩
  · have hnil : ps = [] := List.eq_nil_of_length_eq_zero hn
    subst hnil
    clear h hn hs
    have hq := fun W => Lib.run_eql_slice_nil (P := Tryd.prog) W 51 3 none 0 0 0 0 Tryd.underlying51
    go_enter Tryd.func74, Tryd.ntmps74
    go_wp2_with fail
    go_ret
    exact ⟨_, rfl, World.ownsRow_nil _ _ _ _, Below.refl _ _⟩
  · obtain ⟨i0, hi0, hx0⟩ := Option.map_eq_some_iff.1 infoInt
    simp only [Prod.mk.injEq] at hx0
    obtain ⟨hz0, hz1, hz2⟩ := hx0
    have hlt := (h.lt g rfl).2
    have hnew := World.ownsRow_made (base := w.heap.size) (e := 3) (size := 1) w #[] 0 (Nat.le_refl _) (by decide) (by simp)
    have hnews : ∀ j u, (intCells ps)[j]? = some u → (w.alloc (.cells #[] 3)).cell? ((⟨g, 0, none⟩ : Addr).add j) = some u := fun j u hj => (h.alloc _).cells rfl j u hj
    have H := Lib.hid h
    generalize hm : ps.length = m at *
    have hl : (intCells ps).length = m * 1 := by rw [intCells_length, hm]; omega
    clear h
    have hq := fun W => Lib.run_eql_slice_nil (P := Tryd.prog) W 51 3 (some ⟨g, 0, none⟩) m cap 0 0 Tryd.underlying51
    go_enter Tryd.func74, Tryd.ntmps74
    go_wp2_with (at_builtin; refine wpList_append_own _ rfl _ _ 51 rfl w.heap.size 3 i0 _ 1 8 Tryd.underlying51 hi0 hz0 hz1 hz2 rfl (by decide) _ _ _ rfl hnew ⟨g, 0, none⟩ m cap (intCells ps) rfl hl hnews (intCells_one ps) (by unfold maxLen; omega) (by omega) (by simp) ?_; intro v' w' hown hgr _)
    go_ret
    refine ⟨v', rfl, ?_, ((Below.refl w.heap.size w).alloc (Nat.le_refl _) _).grown hgr (by simp) (fun b hb => by cases hb; exact Nat.le_refl _)⟩
    simpa using hown
end Go.Proofs.YtpjlgahbbmlngaaDoor

namespace Go.Proofs.YtpjlgahbbmlngaaDoor
set_option linter.unusedVariables false
set_option linter.unusedSimpArgs false
open Go Go.RowKit

mutual
/-- how many bytes all tokens in a node have -/
def totN : Nd → Nat
  | .mk k t l => t.2.size + totL l
def totL : List Nd → Nat
  | [] => 0
  | n :: l => totN n + totL l
end
mutual
/-- the spans of all nodes in a node that begins at an offset, in a walk's order -/
def spansN (e : Nat) : Nd → List (Nat × Nat)
  | .mk k t l => (e, e + (t.2.size + totL l)) :: spansL (e + t.2.size) l
def spansL (e : Nat) : List Nd → List (Nat × Nat)
  | [] => []
  | n :: l => spansN e n ++ spansL (e + totN n) l
end
theorem take_snoc0 {α : Type} {l : List α} {k : Nat} {x : α} (h : l[k]? = some x) : l.take (k + 1) = l.take k ++ [x] := by
  obtain ⟨hlt, rfl⟩ := List.getElem?_eq_some_iff.1 h
  rw [List.take_succ_eq_append_getElem hlt]
theorem totN_eq (n : Nd) : totN n = n.tok.2.size + totL n.kids := by cases n; rfl
theorem spansN_eq (e : Nat) (n : Nd) : spansN e n = (e, e + totN n) :: spansL (e + n.tok.2.size) n.kids := by cases n; rfl
theorem totL_append : ∀ a b : List Nd, totL (a ++ b) = totL a + totL b
  | [], b => by simp [totL]
  | n :: a, b => by simp only [List.cons_append, totL, totL_append a b]; omega
theorem spansL_append : ∀ (a b : List Nd) (e : Nat), spansL e (a ++ b) = spansL e a ++ spansL (e + totL a) b
  | [], b, e => by simp [spansL, totL]
  | n :: a, b, e => by simp only [List.cons_append, spansL, spansL_append a b, totL, List.append_assoc, Nat.add_assoc]
theorem totL_take {l : List Nd} {i : Nat} {n : Nd} (h : l[i]? = some n) : totL (l.take (i + 1)) = totL (l.take i) + totN n := by
  rw [take_snoc0 h, totL_append]; simp [totL]
theorem spansL_take {l : List Nd} {i : Nat} {n : Nd} (h : l[i]? = some n) (e : Nat) : spansL e (l.take (i + 1)) = spansL e (l.take i) ++ spansN (e + totL (l.take i)) n := by
  rw [take_snoc0 h, spansL_append]; simp [spansL]
theorem totL_le (l : List Nd) (i : Nat) : totL (l.take i) ≤ totL l := by
  conv => rhs; rw [← List.take_append_drop i l, totL_append]
  omega
mutual
theorem spansN_length (e : Nat) : ∀ n : Nd, (spansN e n).length = countN n
  | .mk k t l => by simp only [spansN, countN, List.length_cons, spansL_length _ l]; omega
theorem spansL_length (e : Nat) : ∀ l : List Nd, (spansL e l).length = countL l
  | [] => rfl
  | n :: l => by simp only [spansL, countL, List.length_append, spansN_length _ n, spansL_length _ l]
end
theorem countL_append : ∀ a b : List Nd, countL (a ++ b) = countL a + countL b
  | [], b => by simp [countL]
  | n :: a, b => by simp only [List.cons_append, countL, countL_append a b]; omega
theorem countL_take (l : List Nd) (i : Nat) : countL (l.take i) ≤ countL l := by
  conv => rhs; rw [← List.take_append_drop i l, countL_append]
  omega
def spCells (l : List (Nat × Nat)) : List Value := l.flatMap fun s => [.int .i64 (s.1 : Int), .int .i64 (s.2 : Int)]
theorem spCells_append (a b : List (Nat × Nat)) : spCells (a ++ b) = spCells a ++ spCells b := by simp [spCells]
theorem spCells_length (l : List (Nat × Nat)) : (spCells l).length = l.length * 2 := by
  induction l with
  | nil => rfl
  | cons s l ih => simp only [spCells, List.flatMap_cons, List.length_append] at *; simp [ih]; omega
theorem spCells_get : ∀ (l : List (Nat × Nat)) (d : Nat) (s : Nat × Nat), l[d]? = some s → (spCells l)[d * 2]? = some (.int .i64 (s.1 : Int)) ∧ (spCells l)[d * 2 + 1]? = some (.int .i64 (s.2 : Int))
  | [], _, _, h => by simp at h
  | x :: l, 0, s, h => by
    obtain rfl := Option.some.inj h
    simp [spCells]
  | x :: l, d + 1, s, h => by
    have := spCells_get l d s (by simpa using h)
    simp only [spCells, List.flatMap_cons] at this ⊢
    rw [show (d + 1) * 2 = d * 2 + 2 by omega, show d * 2 + 2 + 1 = (d * 2 + 1) + 2 by omega]
    simpa using this
theorem spCells_set (a b : List (Nat × Nat)) (e t t' : Nat) : (spCells (a ++ (e, t) :: b)).set (a.length * 2 + 1) (.int .i64 (t' : Int)) = spCells (a ++ (e, t') :: b) := by
  rw [spCells_append, spCells_append, List.set_append_right _ _ (by rw [spCells_length]; omega)]
  rw [spCells_length, show a.length * 2 + 1 - a.length * 2 = 1 by omega]
  simp [spCells]
theorem infoSpan : (Tryd.prog.info? 62).map (fun i => (i.zero, i.size, i.bytes)) = some (some (.agg #[.int .i64 0, .int .i64 0]), 2, 16) := by kernel_rfl
end Go.Proofs.YtpjlgahbbmlngaaDoor
