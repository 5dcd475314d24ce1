/-
  Contracts of Apply, on both sides.; relex: where a span stands after edits (moved); the tokens of a part of a string (lex); the string of tokens, and that after edits (apply).; relex: an append of tokens that lie somewhere (or of none) to a list that the call made.; relex: a part of a list of tokens, as a slice expression gives it.
-/
import Derived.Test.YtkdnacniligjjaaDoorRelexCommonsp20
import Derived.Test.YtkdnacniligjjaaDoorRelexCommonsp1
import Derived.Test.YtkdnacniligjjaaDoorRelexCommonsp19
import Derived.Test.YtkdnacniligjjaaDoorRelexCommonsp11
import Derived.Laws.AppendOwnNone
namespace Go.Proofs.YtkdnacniligjjaaDoor
open Go.RowKit

theorem ret_str_err {a b : ByteArray} {e f : Int} (h : a = b) (h2 : e = f) : Ending.returned (.tuple #[.string a, .int .i64 e]) = .returned (.tuple #[.string b, .int .i64 f]) := by rw [h, h2]

theorem Apply_any (t : ByteArray) (c : Nat) (A : Option Addr) (l : List Ed) (w : World) (hl : Small l) (ht : t.size ≤ 60000) (hE : EdsV w A l) :
    Calls Tryd.prog 40 #[.string t, .slice A l.length c] w fun e w' => e = .returned (.tuple #[.string (applyR t l), .int .i64 (checkE t.size l)]) ∧ Below w.heap.size w w' := by
  by_cases h0 : checkE t.size l = 0
  · have hok := checkE_ok h0
    have H0 := Lib.hid h0
    have q : (checkE t.size l != 0) = false := by simpa using h0
    clear h0
    go_enter Tryd.func40, Tryd.ntmps40
    go_wp2_with fail
    refine (Check_any t c A l w hl ht hE).mono ?_
    rintro e w1 ⟨rfl, hb1⟩
    go_wp2_with fail
    refine (edited_any t 0 t.size c A l _ hl ht (Nat.zero_le _) (Nat.le_refl _) hok.2.2.1 (hE.below hb1)).mono ?_
    rintro e w2 ⟨rfl, hb2⟩
    go_wp2_with fail
    go_ret2
    exact ⟨ret_str_err (applyR_ok H0.out).symm H0.out.symm, hb1.trans (hb2.mono hb1.size)⟩
  · have H0 := Lib.hid h0
    have q : (checkE t.size l != 0) = true := by simpa using h0
    clear h0
    go_enter Tryd.func40, Tryd.ntmps40
    go_wp2_with fail
    refine (Check_any t c A l w hl ht hE).mono ?_
    rintro e w1 ⟨rfl, hb1⟩
    go_wp2_with fail
    go_ret2
    exact ⟨ret_str_err (applyR_no H0.out).symm rfl, hb1⟩

set_option maxHeartbeats 1000000 in
set_option maxRecDepth 100000 in
/-- the specification's Apply, of edits that are right -/
theorem rApply_any (t : ByteArray) (c : Nat) (A : Option Addr) (l : List Ed) (w : World) (hl : Small l) (ht : t.size ≤ 60000) (hr : rising t.size 0 l = true) (hE : EdsV w A l) :
    Calls Tryd.prog 29 #[.string t, .slice A l.length c] w fun e w' => e = .returned (.string (applyB t l)) ∧ Below w.heap.size w w' := by
  have hl1 := hl.1
  have Hr := Lib.hid hr
  clear hr
  go_enter Tryd.func29, Tryd.ntmps29
  go_wp2_with fail
  go_loopw [5, 6, 7] (fun out y i wr => ∃ (k at_ : Nat) (pre : List UInt8), k ≤ l.length ∧ i = .int .i64 k ∧ y = .int .i64 at_ ∧ out = .string (mkB pre) ∧ at_ ≤ t.size ∧ rising t.size at_ (l.drop k) = true ∧ pre ++ editedL t t.size at_ (l.drop k) = editedL t t.size 0 l ∧ pre.length ≤ 60000 * (2 * k) ∧
      Below w.heap.size w wr) (fun _ _ i _ => l.length - (intOf i).toNat)
  case atStart => exact ⟨0, 0, [], by omega, rfl, rfl, rfl, by omega, Hr.out, rfl, by simp, Below.refl _ _⟩
  case round =>
    obtain ⟨k, at_, pre, hk, rfl, rfl, rfl, haz1, hr1, he, hpre, hB⟩ := hrel
    by_cases hlt : k < l.length
    · have hg : (at_ : Int) ≤ l[k].f ∧ l[k].f ≤ l[k].t ∧ l[k].t ≤ t.size ∧ rising t.size l[k].t (l.drop (k + 1)) = true := by
        rw [List.drop_eq_getElem_cons hlt, rising_cons] at hr1; exact ⟨by omega, by omega, by omega, hr1.2.2.2.2⟩
      have hsl := hl.get hlt
      have he1 := he.symm.trans (congrArg (pre ++ ·) (editedL_drop hlt t t.size at_))
      obtain ⟨b, off, x, y, s, rfl, hbs, c1, c2, c3, hek⟩ := (hE.below hB).getN hlt (by omega) (by omega)
      rw [hek] at hg hsl he1
      obtain ⟨g1, g2, g3, hr2⟩ := hg
      simp only at g1 g2 g3 hr2 hsl he1
      have He := Lib.hid he1
      have Hr2 := Lib.hid hr2
      have n1 : at_ ≤ x := by omega
      have n2 : x ≤ t.size := by omega
      have n3 : y ≤ t.size := by omega
      have hsub := sub_le t at_ x
      have hps : (mkB pre).size ≤ 60000 * (2 * 1000) := by rw [mkB_size]; omega
      clear hE he hr1 hr2 he1 hek g1 g3
      go_wp2_with fail
      go_quiet (fail)
      go_wp2_with fail
      refine ⟨⟨k + 1, y, pre ++ (sub t at_ x ++ s.data.toList), by omega, by go_num, rfl, ?_, n3, Hr2.out, ?_, ?_, below_drewN hB _⟩, by simp [intOf]; omega⟩
      · rw [mkB_add, mkB_add, List.append_assoc]; rfl
      · rw [He.out, List.append_assoc, List.append_assoc, Int.toNat_natCast, Int.toNat_natCast]
      · rw [List.length_append, List.length_append, size_toList s]; omega
    · have hke : k = l.length := by omega
      subst hke
      rw [List.drop_of_length_le (Nat.le_refl _)] at he
      have He := Lib.hid he
      have hsub := sub_le t at_ t.size
      have hps : (mkB pre).size ≤ 60000 * (2 * 1000) := by rw [mkB_size]; omega
      clear he hr1 hE
      go_wp2_with fail
      go_ret
      exact ⟨ret_str (by rw [mkB_add]; unfold applyB; rw [← He.out]; rfl), hB⟩
end Go.Proofs.YtkdnacniligjjaaDoor

namespace Go.Proofs.YtkdnacniligjjaaDoor
set_option linter.unusedVariables false
set_option linter.unusedSimpArgs false
open Go.RowKit

theorem own_base {w : World} {base base' : Nat} {e : TypeId} {size n : Nat} {v : Value} {xs : List Value} (h : w.ownsRow base e size v n xs) (hb : base' ≤ base) : w.ownsRow base' e size v n xs :=
  ⟨h.1, h.2.imp id (fun ⟨g, cap, cur, h1, hb', rest⟩ => ⟨g, cap, cur, h1, Nat.le_trans hb hb', rest⟩)⟩
set_option maxRecDepth 100000 in
set_option maxHeartbeats 1000000 in
theorem moved_any (f t : Int) (c : Nat) (A : Option Addr) (l : List Ed) (w : World) (hl : Small l) (hE : EdsV w A l) :
    Calls Tryd.prog 54 #[.agg #[.int .i64 f, .int .i64 t], .slice A l.length c] w fun e w' => e = .returned (.agg #[.int .i64 (moveRes l f false), .int .i64 (moveRes l t true)]) ∧ Below w.heap.size w w' := by
  obtain ⟨w0, hw0⟩ : ∃ w0, w0 = (w.alloc (.cells #[.int .i64 f, .int .i64 t] 84)).alloc (.cells #[.int .i64 0, .int .i64 0] 84) := ⟨_, rfl⟩
  have hB0 : Below w.heap.size w w0 := by rw [hw0]; exact ((Below.refl _ _).alloc (Nat.le_refl _) _).alloc (by simp) _
  have h1 : w0.heap[w.heap.size]? = some (.cells #[.int .i64 f, .int .i64 t] 84 (0, 0)) := by
    rw [hw0]; exact (Below.heap_alloc _ _ _ (by simp)).trans (heap_alloc_new w _)
  have h2 : w0.heap[w.heap.size + 1]? = some (.cells #[.int .i64 0, .int .i64 0] 84 (0, 0)) := by
    rw [hw0]; exact heap_alloc2T w _ _
  have hsz0 : w.heap.size + 1 < w0.heap.size := by rw [hw0]; simp
  have hE0 := hE.below hB0
  have m0 : w0.cell? ⟨w.heap.size, 0, none⟩ = some (.int .i64 f) := Lib.cell_of_heap h1 0
  have hM := Move_any c A l f false w0 hl hE0
  have HM := Lib.hid hM
  have HL := Lib.hid hl
  have HE0 := Lib.hid hE0
  have HB0 := Lib.hid hB0
  have H1 := Lib.hid h1
  have H2 := Lib.hid h2
  have HW0 := Lib.hid hw0
  obtain ⟨r1, hr1⟩ : ∃ r, r = moveRes l f false := ⟨_, rfl⟩
  obtain ⟨r2, hr2⟩ : ∃ r, r = moveRes l t true := ⟨_, rfl⟩
  have HR1 := Lib.hid hr1
  have HR2 := Lib.hid hr2
  clear hw0 h1 h2 hB0 hE hE0 hM hl hr1 hr2
  rw [← HR1.out, ← HR2.out]
  rw [← HR1.out] at HM
  go_enter Tryd.func54, Tryd.ntmps54
  go_wp2_with fail
  rw [← HW0.out]
  go_wp2_with fail
  refine HM.out.mono ?_
  rintro e w2 ⟨rfl, hb2⟩
  have h12 := (hb2.block w.heap.size (by omega)).trans H1.out
  have h22 := (hb2.block (w.heap.size + 1) hsz0).trans H2.out
  have p1 : w2.cell? ⟨w.heap.size, 1, none⟩ = some (.int .i64 t) := Lib.cell_of_heap h12 1
  have hM2 := Move_any c A l t true w2 HL.out (HE0.out.below hb2)
  rw [← HR2.out] at hM2
  have HM2 := Lib.hid hM2
  have hb22 := HB0.out.trans (hb2.mono HB0.out.size)
  have HB2 := Lib.hid hb22
  have H22 := Lib.hid h22
  have hsz2 := hb2.size
  clear h12 h22 hb2 hM2 hb22
  go_wp2_with fail
  refine HM2.out.mono ?_
  rintro e w3 ⟨rfl, hb3⟩
  have h33 := (hb3.block (w.heap.size + 1) (by omega)).trans H22.out
  have hb33 := HB2.out.trans (hb3.mono HB2.out.size)
  have n0 : w3.cell? ⟨w.heap.size + 1, 0, none⟩ = some (.int .i64 0) := Lib.cell_of_heap h33 0
  have n1 : w3.cell? ⟨w.heap.size + 1, 1, none⟩ = some (.int .i64 0) := Lib.cell_of_heap h33 1
  have f0 : w3.frozen? ⟨w.heap.size + 1, 0, none⟩ = false := by simp [World.frozen?, h33]
  have f1 : w3.frozen? ⟨w.heap.size + 1, 1, none⟩ = false := by simp [World.frozen?, h33]
  go_wp2_with fail
  obtain ⟨hB4, q0, q1⟩ := fin2 (.int .i64 r1) (.int .i64 r2) hb33 (Nat.le_succ _) h33
  obtain ⟨w4, hw4⟩ : ∃ w4, w4 = (w3.setCell ⟨w.heap.size + 1, 0, none⟩ (.int .i64 r1)).setCell ⟨w.heap.size + 1, 1, none⟩ (.int .i64 r2) := ⟨_, rfl⟩
  rw [← hw4]
  rw [← hw4] at hB4 q0 q1
  clear hw4
  refine bodyPost_ret (by simp [results, Tryd.results54, go_sem, q0, q1]; try rfl) rfl ?_
  exact ⟨rfl, hB4⟩

set_option maxRecDepth 100000 in
set_option maxHeartbeats 1000000 in
theorem lex_any (s : ByteArray) (f t : Nat) (w : World) (hft : f ≤ t) (ht : t ≤ s.size) (hs : (s.extract f t).size ≤ 20000) (hs2 : s.size ≤ 60000) (hT : Tabs w) :
    Calls Tryd.prog 53 #[.string s, .agg #[.int .i64 (f : Int), .int .i64 (t : Int)]] w fun e w' => ∃ v, e = .returned v ∧ w'.ownsRow w.heap.size 24 2 v (lexL (s.extract f t)).length (tkCells (lexL (s.extract f t))) ∧ Below w.heap.size w w' := by
  obtain ⟨w0, hw0⟩ : ∃ w0, w0 = w.alloc (.cells #[.int .i64 (f : Int), .int .i64 (t : Int)] 84) := ⟨_, rfl⟩
  have hB0 : Below w.heap.size w w0 := by rw [hw0]; exact (Below.refl _ _).alloc (Nat.le_refl _) _
  have h1 : w0.heap[w.heap.size]? = some (.cells #[.int .i64 (f : Int), .int .i64 (t : Int)] 84 (0, 0)) := by rw [hw0]; exact heap_alloc_new w _
  have m0 : w0.cell? ⟨w.heap.size, 0, none⟩ = some (.int .i64 (f : Int)) := Lib.cell_of_heap h1 0
  have m1 : w0.cell? ⟨w.heap.size, 1, none⟩ = some (.int .i64 (t : Int)) := Lib.cell_of_heap h1 1
  have hsz0 : w.heap.size ≤ w0.heap.size := hB0.size
  have HL := Lib.hid (Lex_own (s.extract f t) w0 hs (hT.below hB0))
  have HB0 := Lib.hid hB0
  have HW0 := Lib.hid hw0
  have c0 : (0 : Int) ≤ (f : Int) := by omega
  have c1 : (0 : Int) ≤ (t : Int) := by omega
  have c2 : (f : Int) ≤ (t : Int) := by omega
  have c3 : (t : Int) ≤ (s.size : Int) := by omega
  clear hw0 h1 hB0 hT
  go_enter Tryd.func53, Tryd.ntmps53
  go_wp2_with fail
  rw [← HW0.out]
  go_wp2_with fail
  refine HL.out.mono ?_
  rintro e w2 ⟨v, rfl, hown, hb2⟩
  have hown2 := own_base hown hsz0
  have hb22 := HB0.out.trans (hb2.mono HB0.out.size)
  go_wp2_with fail
  go_ret
  exact ⟨_, rfl, hown2, hb22⟩

/-- the string of tokens, that after edits, and the error -/
def applyT (l : List Tok) (es : List Ed) : ByteArray × ByteArray × Int :=
  if (textR l).2 ≠ 0 then (ByteArray.empty, ByteArray.empty, (textR l).2) else if checkE (textR l).1.size es ≠ 0 then (ByteArray.empty, ByteArray.empty, checkE (textR l).1.size es) else ((textR l).1, applyR (textR l).1 es, 0)
theorem ret_sse {p : ByteArray × ByteArray × Int} {a b : ByteArray} {c : Int} (h : p = (a, b, c)) : Ending.returned (.tuple #[.string a, .string b, .int .i64 c]) = .returned (.tuple #[.string p.1, .string p.2.1, .int .i64 p.2.2]) := by rw [h]
theorem textR_small (l : List Tok) : (textR l).1.size ≤ 60000 := by
  unfold textR
  split
  · exact Nat.zero_le _
  · split
    · exact Nat.zero_le _
    · split
      · rw [mkB_size]; omega
      · exact Nat.zero_le _

set_option maxRecDepth 100000 in
set_option maxHeartbeats 1000000 in
theorem apply_any (c ce : Nat) (A Ae : Option Addr) (l : List Tok) (es : List Ed) (w : World) (hl : l.length ≤ 60000) (hsz : ∀ p ∈ l, p.2.size ≤ 60000) (hes : Small es) (hT : Tabs w) (hE : TksV w A l) (hEe : EdsV w Ae es) :
    Calls Tryd.prog 49 #[.slice A l.length c, .slice Ae es.length ce] w fun e w' => e = .returned (.tuple #[.string (applyT l es).1, .string (applyT l es).2.1, .int .i64 (applyT l es).2.2]) ∧ Below w.heap.size w w' := by
  have hX := Text_any c A l w hl hsz hT hE
  have hs := textR_small l
  have hp : applyT l es = if (textR l).2 ≠ 0 then (ByteArray.empty, ByteArray.empty, (textR l).2) else if checkE (textR l).1.size es ≠ 0 then (ByteArray.empty, ByteArray.empty, checkE (textR l).1.size es) else ((textR l).1, applyR (textR l).1 es, 0) := rfl
  obtain ⟨r, hr⟩ : ∃ r, r = textR l := ⟨_, rfl⟩
  rw [← hr] at hX hs hp
  obtain ⟨t, e0⟩ := r
  simp only at hX hs hp
  have hY := fun W (hW : EdsV W Ae es) => Apply_any t ce Ae es W hes hs hW
  obtain ⟨k, hk⟩ : ∃ k, k = checkE t.size es := ⟨_, rfl⟩
  rw [← hk] at hY hp
  have HX := Lib.hid hX
  have HY := Lib.hid hY
  have HP := Lib.hid hp
  have HE := Lib.hid hEe
  clear hX hY hp hE hEe hT hk hr
  by_cases h0 : e0 = 0
  · subst h0
    by_cases h1 : k = 0
    · subst h1
      go_enter Tryd.func49, Tryd.ntmps49
      go_wp2_with fail
      refine HX.out.mono ?_
      rintro e w1 ⟨rfl, hb1⟩
      go_wp2_with fail
      refine (HY.out w1 (HE.out.below hb1)).mono ?_
      rintro e w2 ⟨rfl, hb2⟩
      go_wp2_with fail
      have hb3 := hb1.trans (hb2.mono hb1.size)
      go_ret3
      refine ⟨ret_sse (by rw [HP.out]; simp), ?_⟩
      first | exact hb3 | exact hb3.drew
    · have q1 : (k == 0) = false := by simp [h1]
      go_enter Tryd.func49, Tryd.ntmps49
      go_wp2_with fail
      refine HX.out.mono ?_
      rintro e w1 ⟨rfl, hb1⟩
      go_wp2_with fail
      refine (HY.out w1 (HE.out.below hb1)).mono ?_
      rintro e w2 ⟨rfl, hb2⟩
      go_wp2_with fail
      have hb3 := hb1.trans (hb2.mono hb1.size)
      go_ret3
      refine ⟨ret_sse (by rw [HP.out]; simp [h1]; try rfl), ?_⟩
      first | exact hb3 | exact hb3.drew
  · have q1 : (e0 == 0) = false := by simp [h0]
    go_enter Tryd.func49, Tryd.ntmps49
    go_wp2_with fail
    refine HX.out.mono ?_
    rintro e w1 ⟨rfl, hb1⟩
    go_wp2_with fail
    go_ret3
    refine ⟨ret_sse (by rw [HP.out]; simp [h0]; try rfl), ?_⟩
    first | exact hb1 | exact hb1.drew
end Go.Proofs.YtkdnacniligjjaaDoor

namespace Go.Proofs.YtkdnacniligjjaaDoor
set_option linter.unusedVariables false
set_option linter.unusedSimpArgs false
open Go.RowKit

theorem tkCells_oneC (l : List Tok) : ∀ u ∈ tkCells l, u.oneCell' = true := by
  intro u hu
  unfold tkCells at hu
  rw [List.mem_flatMap] at hu
  obtain ⟨p, _, hp⟩ := hu
  rcases List.mem_cons.1 hp with rfl | hp
  · rfl
  · have : u = .string p.2 := by simpa using hp
    subst this; rfl
theorem tks_newsA {w : World} {ad : Addr} {l : List Tok} (h : TksV w (some ad) l) : ∀ j u, (tkCells l)[j]? = some u → w.cell? (ad.add j) = some u := by
  intro j u hj
  have hlt : j < l.length * 2 := by
    rcases Nat.lt_or_ge j (tkCells l).length with h' | h'
    · rw [tkCells_length] at h'; exact h'
    · rw [List.getElem?_eq_none h'] at hj; cases hj
  obtain ⟨b', off', e, _, hg⟩ := h (by omega)
  injection e with e
  subst e
  have hi : j / 2 < l.length := by omega
  obtain ⟨h1, h2⟩ := tkCells_get l (j / 2) l[j / 2] (List.getElem?_eq_getElem hi)
  obtain ⟨g1, g2⟩ := hg (j / 2) l[j / 2] (List.getElem?_eq_getElem hi)
  rcases Nat.mod_two_eq_zero_or_one j with hm | hm
  · have e : j = j / 2 * 2 := by omega
    have : u = .int .i64 l[j / 2].1 := by
      rw [e, h1] at hj; exact (Option.some.inj hj).symm
    subst this
    rw [show (⟨b', off', none⟩ : Addr).add j = ⟨b', off' + j, none⟩ by simp [Addr.add]]
    rw [show off' + j = off' + j / 2 * 2 by omega]
    exact g1
  · have e : j = j / 2 * 2 + 1 := by omega
    have : u = .string l[j / 2].2 := by
      rw [e, h2] at hj; exact (Option.some.inj hj).symm
    subst this
    rw [show (⟨b', off', none⟩ : Addr).add j = ⟨b', off' + j, none⟩ by simp [Addr.add]]
    rw [show off' + j = off' + j / 2 * 2 + 1 by omega]
    exact g2
theorem wpList_append_toks {P : Program} (w : World) {ops : Array Oper} {rest : List Oper} {o : Oper} {a : Act} {Q : Exit → Act → World → Prop} (hgd : o.guard = none) (s x : Operand) (t : TypeId)
    (ho : o.op = .call { callee := .builtin .append, args := #[s, x], argTypes := #[t, t] })
    (base : Nat) (e : TypeId) (i : TypeInfo) (z : Value) (bytes : Nat) (ht : P.underlying t = some (.slice e)) (hi : P.info? e = some i) (hz : i.zero = some z)
    (hsize : i.size = 2) (hby : i.bytes = bytes) (hzs : z.cells.size = 2)
    (v : Value) (n : Nat) (xs : List Value) (hs : a.eval s = v) (hown : w.ownsRow base e 2 v n xs)
    (ao : Option Addr) (c : Nat) (l : List Tok) (hx : a.eval x = .slice ao l.length c) (hc : ao = none → l = [] ∧ c = 0) (hT : TksV w ao l)
    (h63 : n + l.length ≤ maxLen) (hbytes : (n + l.length) * bytes ≤ 140737488355328) (hbase : base ≤ w.heap.size)
    (h : ∀ v' w', w'.ownsRow base e 2 v' (n + l.length) (xs ++ tkCells l) → w.grownBy w' v.ownBlock → wpList P ops Q rest (a.put o.dst v') w') : wpList P ops Q (o :: rest) a w := by
  cases ao with
  | none =>
    obtain ⟨rfl, rfl⟩ := hc rfl
    refine wpList_append_own_none hgd s x t ho base e i 2 ht hi v n xs hs hown hx (h v w ?_ ⟨rfl, rfl, rfl, Nat.le_refl _, fun _ _ _ => rfl⟩)
    have e1 : xs ++ tkCells [] = xs := by simp [tkCells]
    rw [e1]
    exact hown
  | some ad =>
    exact wpList_append_own w hgd s x t ho base e i z 2 bytes ht hi hz hsize hby hzs (by decide) v n xs hs hown ad l.length c (tkCells l) hx (tkCells_length l) (tks_newsA hT) (tkCells_oneC l) h63 hbytes hbase (fun v' w' h1 h2 _ => h v' w' h1 h2)
end Go.Proofs.YtkdnacniligjjaaDoor

namespace Go.Proofs.YtkdnacniligjjaaDoor
set_option linter.unusedVariables false
set_option linter.unusedSimpArgs false
open Go.RowKit

theorem elemTok : Tryd.prog.elem 22 = 24 := by simp [Program.elem, Tryd.underlying22]
theorem undTok : Tryd.prog.underlying 22 = some (.slice (Tryd.prog.elem 22)) := by rw [elemTok]; exact Tryd.underlying22
theorem sizeTok (w : World) : (Go.sizeOf 24).run Tryd.prog w = .ok 2 w := Tryd.sizeOf24 w
theorem seg_tks {W : World} {A : Option Addr} {L : List Tok} {d a c : Nat} (hal : a ≤ L.length) (hlc : L.length ≤ c) (hT : TksV W A L) : TksV W (if c = d then A else A.map (·.add (d * 2))) ((L.take a).drop d) := by
  intro hlen
  have hda : d < a := by
    rw [List.length_drop, List.length_take] at hlen
    omega
  obtain ⟨b, off, rfl, hb, hg⟩ := hT (by omega)
  rw [if_neg (by omega)]
  refine ⟨b, off + d * 2, by simp [Addr.add], hb, fun i p hp => ?_⟩
  rw [List.getElem?_drop, List.getElem?_take] at hp
  split at hp
  · have := hg (d + i) p hp
    rw [show off + d * 2 + i * 2 = off + (d + i) * 2 by omega]
    exact this
  · cases hp
theorem slice_toks {A : Option Addr} {L : List Tok} {d a c : Nat} (hda : d ≤ a) (hal : a ≤ L.length) (hlc : L.length ≤ c) (hA : A = none → L = [] ∧ c = 0) :
    ∃ A1, (∀ W, (Instr.slice 22 (.slice A L.length c) (some (.int .i64 (d : Int))) (some (.int .i64 (a : Int))) none).run Tryd.prog W = .ok (.slice A1 (a - d) (c - d)) W) ∧ (A1 = none → (L.take a).drop d = [] ∧ c - d = 0) ∧ ∀ W, TksV W A L → TksV W A1 ((L.take a).drop d) := by
  refine ⟨if c = d then A else A.map (·.add (d * 2)), fun W => ?_, fun h => ?_, fun W hT => seg_tks hal hlc hT⟩
  · rw [run_slice_lh W 22 _ _ _ undTok .i64 .i64 _ _ (by omega) (by omega) (by omega), elemTok, sizeTok]
    simp [Result.andThen, sliced]
  · have hn : A = none := by
      split at h
      · exact h
      · simpa using h
    obtain ⟨rfl, rfl⟩ := hA hn
    simp
theorem slice_tail {A : Option Addr} {L : List Tok} {d c : Nat} (hda : d ≤ L.length) (hlc : L.length ≤ c) (hA : A = none → L = [] ∧ c = 0) :
    ∃ A1, (∀ W, (Instr.slice 22 (.slice A L.length c) (some (.int .i64 (d : Int))) none none).run Tryd.prog W = .ok (.slice A1 (L.length - d) (c - d)) W) ∧ (A1 = none → L.drop d = [] ∧ c - d = 0) ∧ ∀ W, TksV W A L → TksV W A1 (L.drop d) := by
  refine ⟨if c = d then A else A.map (·.add (d * 2)), fun W => ?_, fun h => ?_, fun W hT => ?_⟩
  · rw [run_slice_l W 22 _ _ _ undTok .i64 _ (by omega) (by omega), elemTok, sizeTok]
    simp [Result.andThen, sliced]
  · have hn : A = none := by
      split at h
      · exact h
      · simpa using h
    obtain ⟨rfl, rfl⟩ := hA hn
    simp
  · have := seg_tks (d := d) (a := L.length) (Nat.le_refl _) hlc hT
    rw [List.take_length] at this
    exact this
end Go.Proofs.YtkdnacniligjjaaDoor
