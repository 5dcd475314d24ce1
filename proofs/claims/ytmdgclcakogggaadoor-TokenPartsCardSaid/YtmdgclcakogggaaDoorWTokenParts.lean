/-
  TokenParts: where the last token and the first one are apart, the tokens of two strings, one after the other, are those of both.
  No condition: every input.
-/
import Derived.Test.YtmdgclcakogggaaDoorTkAlive
import Derived.Test.YtmdgclcakogggaaDoorTkApart
import Derived.Test.YtmdgclcakogggaaDoorTkShort
import Derived.Test.YtmdgclcakogggaaDoorTkLaid
import Derived.Deep.RegionHeld3
namespace Go.Proofs.YtmdgclcakogggaaDoor.lawTokenParts
set_option linter.unusedVariables false
set_option linter.unusedSimpArgs false
open Go.ChangeShapes Go.WideShapes Go.RowKit
open Go.ChangeMaps (open_string shut_string)

theorem below_callT {B : Nat} {a Y w1 : World} (h : Below B a Y) (hB : B ≤ a.heap.size) (hb : Below Y.heap.size Y w1) : Below B a w1 := h.trans (hb.mono (Nat.le_trans hB h.size))
theorem pt_kept {w w' : World} {c b o1 o2 : Nat} {v1 v2 v3 v4 : Value} (hb : Below w.heap.size w w') (l1 : c < w.heap.size) (l2 : b < w.heap.size)
    (c1 : w.cell? ⟨c, 0, none⟩ = some v1) (c2 : w.cell? ⟨c, 1, none⟩ = some v2) (d1 : w.cell? ⟨b, o1, none⟩ = some v3) (d2 : w.cell? ⟨b, o2, none⟩ = some v4) :
    Below w.heap.size w w' ∧ w'.cell? ⟨c, 0, none⟩ = some v1 ∧ w'.cell? ⟨c, 1, none⟩ = some v2 ∧ w'.cell? ⟨b, o1, none⟩ = some v3 ∧ w'.cell? ⟨b, o2, none⟩ = some v4 :=
  ⟨hb, (hb.cell l1).trans c1, (hb.cell l1).trans c2, (hb.cell l2).trans d1, (hb.cell l2).trans d2⟩
/-- an append behind a guard that says yes -/
theorem wpList_append_want {P : Program} (w : World) {ops : Array Oper} {rest : List Oper} {o : Oper} {a : Act} {Q : Exit → Act → World → Prop} (hw : Region.wanted o (yielded ops a.tmps) = true) (s x : Operand) (t : TypeId)
    (ho : o.op = .call { callee := .builtin .append, args := #[s, x], argTypes := #[t, t] })
    (base : Nat) (e : TypeId) (i : TypeInfo) (z : Value) (size bytes : Nat) (ht : P.underlying t = some (.slice e)) (hi : P.info? e = some i) (hz : i.zero = some z)
    (hsize : i.size = size) (hby : i.bytes = bytes) (hzs : z.cells.size = size) (hsz : 0 < size)
    (v : Value) (n : Nat) (xs : List Value) (hs : a.eval s = v) (hown : w.ownsRow base e size v n xs)
    (ad : Addr) (m c : Nat) (news : List Value) (hx : a.eval x = .slice (some ad) m c) (hl : news.length = m * size) (hnews : ∀ j u, news[j]? = some u → w.cell? (ad.add j) = some u) (h1 : ∀ u ∈ news, u.oneCell' = true)
    (h63 : n + m ≤ maxLen) (hbytes : (n + m) * bytes ≤ 140737488355328) (hbase : base ≤ w.heap.size)
    (h : ∀ v' w', w'.ownsRow base e size v' (n + m) (xs ++ news) → w.grownBy w' v.ownBlock → (v' = .slice none 0 0 ↔ v = .slice none 0 0 ∧ m = 0) → wpList P ops Q rest (a.put o.dst v') w') : wpList P ops Q (o :: rest) a w :=
  BigFrame.wpList_want hw fun _ hK => wp_append_own w s x t ho base e i z size bytes ht hi hz hsize hby hzs hsz v n xs hs hown ad m c news hx hl hnews h1 h63 hbytes hbase fun v' w' h2 h3 h4 => hK _ _ (h v' w' h2 h3 h4)
theorem tkCells_one (l : List Tok) : ∀ u ∈ tkCells l, u.oneCell' = true := by
  intro u hu
  unfold tkCells at hu
  rw [List.mem_flatMap] at hu
  obtain ⟨p, _, hp⟩ := hu
  simp at hp
  rcases hp with rfl | rfl <;> rfl
theorem tks_news {w : World} {b off : Nat} {l : List Tok} (h : TksV w (some ⟨b, off, none⟩) l) : ∀ j u, (tkCells l)[j]? = some u → w.cell? ((⟨b, off, none⟩ : Addr).add j) = some u := by
  intro j u hj
  have hlt : j < l.length * 2 := by
    rcases Nat.lt_or_ge j (tkCells l).length with h' | h'
    · rw [tkCells_length] at h'; exact h'
    · rw [List.getElem?_eq_none h'] at hj; cases hj
  obtain ⟨b', off', e, _, hg⟩ := h (by omega)
  injection e with e
  injection e with e1 e2
  subst e1 e2
  have hi : j / 2 < l.length := by omega
  obtain ⟨h1, h2⟩ := tkCells_get l (j / 2) l[j / 2] (List.getElem?_eq_getElem hi)
  obtain ⟨g1, g2⟩ := hg (j / 2) l[j / 2] (List.getElem?_eq_getElem hi)
  rw [show (⟨b, off, none⟩ : Addr).add j = ⟨b, off + j, none⟩ by simp [Addr.add]]
  rcases Nat.mod_two_eq_zero_or_one j with hm | hm
  · have ej : j = j / 2 * 2 := by omega
    rw [← ej, hj] at h1
    rw [← ej] at g1
    rw [g1, h1]
  · have ej : j = j / 2 * 2 + 1 := by omega
    rw [← ej, hj] at h2
    rw [show off + j / 2 * 2 + 1 = off + j by omega] at g2
    rw [g2, h2]

set_option maxRecDepth 100000 in
set_option maxHeartbeats 1000000 in
theorem walk (a : ByteArray) (ha : a.size ≤ maxLen) (b : ByteArray) (hb : b.size ≤ maxLen) (w : World) (hT : Tabs w) :
    Calls Tryd.prog 8 #[.string a, .string b] w fun e w' => e = .returned (.bool true) ∧ Below w.heap.size w w' := by
  have hsha := ShortT_any a w ha
  have hshb := ShortT_any b w hb
  have hsa := shortT_size a
  have hsb := shortT_size b
  generalize shortT a = s at hsha hsa
  generalize shortT b = t at hshb hsb
  have Hsha := Lib.hid hsha
  have Hshb := Lib.hid hshb
  have HT := Lib.hid hT
  have hs1 : s.size ≤ 20001 := by omega
  have ht1 : t.size ≤ 20001 := by omega
  clear hsha hshb hsa hsb hT ha hb
  by_cases h1 : 20000 < s.size
  · by_cases h2 : 20000 < t.size
    · go_enter Tryd.func8, Tryd.ntmps8
      go_wp2_with fail
      refine Hsha.out.mono ?_
      rintro e w1 ⟨rfl, rfl⟩
      go_wp2_with fail
      refine Hshb.out.mono ?_
      rintro e w1 ⟨rfl, rfl⟩
      go_wp2_with fail
      refine (Lex_no s w h1).mono ?_
      rintro e w1 ⟨rfl, rfl⟩
      have hB1 := Below.refl w1.heap.size w1
      go_wp2_with fail
      refine (Lex_no t w1 h2).mono ?_
      rintro e w2 ⟨rfl, rfl⟩
      have hB2 := hB1
      go_wp2_with fail
      with_reducible refine (alive_any w2 (HT.out.below hB2)).mono ?_
      rintro e wz ⟨rfl, hbz⟩
      go_wp2_with fail
      go_ret
      exact ⟨rfl, hB2.trans (hbz.mono hB2.size)⟩
    · have h2 : t.size ≤ 20000 := by omega
      go_enter Tryd.func8, Tryd.ntmps8
      go_wp2_with fail
      refine Hsha.out.mono ?_
      rintro e w1 ⟨rfl, rfl⟩
      go_wp2_with fail
      refine Hshb.out.mono ?_
      rintro e w1 ⟨rfl, rfl⟩
      go_wp2_with fail
      refine (Lex_no s w h1).mono ?_
      rintro e w1 ⟨rfl, rfl⟩
      have hB1 := Below.refl w1.heap.size w1
      go_wp2_with fail
      refine (Lex_own t w1 h2 (HT.out.below hB1)).mono ?_
      rintro e w2 ⟨v2, rfl, ho2, hb2⟩
      obtain ⟨A2, c2, rfl, hE2, hc2, _⟩ := TksV.of_own ho2
      have hB2 := hB1.trans (hb2.mono hB1.size)
      clear ho2
      go_wp2_with fail
      with_reducible refine (alive_any w2 (HT.out.below hB2)).mono ?_
      rintro e wz ⟨rfl, hbz⟩
      go_wp2_with fail
      go_ret
      exact ⟨rfl, hB2.trans (hbz.mono hB2.size)⟩
  · have h1 : s.size ≤ 20000 := by omega
    by_cases h2 : 20000 < t.size
    · go_enter Tryd.func8, Tryd.ntmps8
      go_wp2_with fail
      refine Hsha.out.mono ?_
      rintro e w1 ⟨rfl, rfl⟩
      go_wp2_with fail
      refine Hshb.out.mono ?_
      rintro e w1 ⟨rfl, rfl⟩
      go_wp2_with fail
      refine (Lex_own s w h1 HT.out).mono ?_
      rintro e w1 ⟨v1, rfl, ho1, hB1⟩
      obtain ⟨A1, c1, rfl, hE1, hc1, _⟩ := TksV.of_own ho1
      clear ho1
      go_wp2_with fail
      refine (Lex_no t w1 h2).mono ?_
      rintro e w2 ⟨rfl, rfl⟩
      have hB2 := hB1
      go_wp2_with fail
      with_reducible refine (alive_any w2 (HT.out.below hB2)).mono ?_
      rintro e wz ⟨rfl, hbz⟩
      go_wp2_with fail
      go_ret
      exact ⟨rfl, hB2.trans (hbz.mono hB2.size)⟩
    · have h2 : t.size ≤ 20000 := by omega
      have hl1 := lexL_length s.size s (Nat.le_refl _)
      have hl2 := lexL_length t.size t (Nat.le_refl _)
      have sum : IntKind.i64.wrap ((s.size : Int) + (t.size : Int)) = (s.size : Int) + (t.size : Int) := IntWalk.i64_in _ (by omega)
      by_cases hz1 : s.size = 0
      · have e1 : (lexL s) = [] := lexL_nil hz1
        go_enter Tryd.func8, Tryd.ntmps8
        go_wp2_with fail
        refine Hsha.out.mono ?_
        rintro e w1 ⟨rfl, rfl⟩
        go_wp2_with fail
        refine Hshb.out.mono ?_
        rintro e w1 ⟨rfl, rfl⟩
        go_wp2_with fail
        refine (Lex_own s w h1 HT.out).mono ?_
        rintro e w1 ⟨v1, rfl, ho1, hB1⟩
        obtain ⟨A1, c1, rfl, hE1, hc1, _⟩ := TksV.of_own ho1
        rw [e1]
        clear ho1
        go_wp2_with fail
        refine (Lex_own t w1 h2 (HT.out.below hB1)).mono ?_
        rintro e w2 ⟨v2, rfl, ho2, hb2⟩
        obtain ⟨A2, c2, rfl, hE2, hc2, _⟩ := TksV.of_own ho2
        have hB2 := hB1.trans (hb2.mono hB1.size)
        clear ho2
        go_wp2_with fail
        with_reducible refine (alive_any w2 (HT.out.below hB2)).mono ?_
        rintro e wz ⟨rfl, hbz⟩
        go_wp2_with fail
        go_ret
        exact ⟨rfl, hB2.trans (hbz.mono hB2.size)⟩
      · by_cases hz2 : t.size = 0
        · have e2 : (lexL t) = [] := lexL_nil hz2
          have hLp : 0 < (lexL s).length := by rw [lexL_step (by omega)]; simp
          have qa : (((lexL s).length : Int) == 0) = false := beq_eq_false_iff_ne.2 (by omega)
          go_enter Tryd.func8, Tryd.ntmps8
          go_wp2_with fail
          refine Hsha.out.mono ?_
          rintro e w1 ⟨rfl, rfl⟩
          go_wp2_with fail
          refine Hshb.out.mono ?_
          rintro e w1 ⟨rfl, rfl⟩
          go_wp2_with fail
          refine (Lex_own s w h1 HT.out).mono ?_
          rintro e w1 ⟨v1, rfl, ho1, hB1⟩
          obtain ⟨A1, c1, rfl, hE1, hc1, _⟩ := TksV.of_own ho1
          clear ho1
          go_wp2_with fail
          refine (Lex_own t w1 h2 (HT.out.below hB1)).mono ?_
          rintro e w2 ⟨v2, rfl, ho2, hb2⟩
          obtain ⟨A2, c2, rfl, hE2, hc2, _⟩ := TksV.of_own ho2
          rw [e2]
          have hB2 := hB1.trans (hb2.mono hB1.size)
          clear ho2
          go_wp2_with fail
          with_reducible refine (alive_any w2 (HT.out.below hB2)).mono ?_
          rintro e wz ⟨rfl, hbz⟩
          go_wp2_with fail
          go_ret
          exact ⟨rfl, hB2.trans (hbz.mono hB2.size)⟩
        · have hLp : 0 < (lexL s).length := by rw [lexL_step (by omega)]; simp
          have hRp : 0 < (lexL t).length := by rw [lexL_step (by omega)]; simp
          have qa : (((lexL s).length : Int) == 0) = false := beq_eq_false_iff_ne.2 (by omega)
          have qb : (((lexL t).length : Int) == 0) = false := beq_eq_false_iff_ne.2 (by omega)
          by_cases h9 : 20000 < s.size + t.size
          · have qc : decide ((20000 : Int) < (s.size : Int) + (t.size : Int)) = true := by simp; omega
            go_enter Tryd.func8, Tryd.ntmps8
            go_wp2_with fail
            refine Hsha.out.mono ?_
            rintro e w1 ⟨rfl, rfl⟩
            go_wp2_with fail
            refine Hshb.out.mono ?_
            rintro e w1 ⟨rfl, rfl⟩
            go_wp2_with fail
            refine (Lex_own s w h1 HT.out).mono ?_
            rintro e w1 ⟨v1, rfl, ho1, hB1⟩
            obtain ⟨A1, c1, rfl, hE1, hc1, _⟩ := TksV.of_own ho1
            clear ho1
            go_wp2_with fail
            refine (Lex_own t w1 h2 (HT.out.below hB1)).mono ?_
            rintro e w2 ⟨v2, rfl, ho2, hb2⟩
            obtain ⟨A2, c2, rfl, hE2, hc2, _⟩ := TksV.of_own ho2
            have hB2 := hB1.trans (hb2.mono hB1.size)
            clear ho2
            go_wp2_with fail
            with_reducible refine (alive_any w2 (HT.out.below hB2)).mono ?_
            rintro e wz ⟨rfl, hbz⟩
            go_wp2_with fail
            go_ret
            exact ⟨rfl, hB2.trans (hbz.mono hB2.size)⟩
          · have qc : decide ((20000 : Int) < (s.size : Int) + (t.size : Int)) = false := by simp; omega
            have hlxa := Lex_own s w h1 HT.out
            have hlxb := fun (W : World) (h : Below w.heap.size w W) => Lex_own t W h2 (HT.out.below h)
            generalize hLd : lexL s = L at hlxa hLp qa hl1
            generalize hRd : lexL t = R at hlxb hRp qb hl2
            have Hlxa := Lib.hid hlxa
            have Hlxb := Lib.hid hlxb
            clear hlxa hlxb
            go_enter Tryd.func8, Tryd.ntmps8
            go_wp2_with fail
            refine Hsha.out.mono ?_
            rintro e w1 ⟨rfl, rfl⟩
            go_wp2_with fail
            refine Hshb.out.mono ?_
            rintro e w1 ⟨rfl, rfl⟩
            go_wp2_with fail
            refine Hlxa.out.mono ?_
            rintro e w1 ⟨v1, rfl, ho1, hB1⟩
            obtain ⟨A1, c1, rfl, hE1, hc1, _⟩ := TksV.of_own ho1
            clear ho1
            go_wp2_with fail
            refine (Hlxb.out w1 hB1).mono ?_
            rintro e w2 ⟨v2, rfl, ho2, hb2⟩
            obtain ⟨A2, c2, rfl, hE2, hc2, _⟩ := TksV.of_own ho2
            have hB2 := hB1.trans (hb2.mono hB1.size)
            clear ho2
            have hE1' := hE1.below hb2
            clear hE1
            have hs0 : 0 < s.size := by omega
            have ht0 : 0 < t.size := by omega
            have hne1 : L.length - 1 < L.length := by omega
            obtain ⟨bx, ox, rfl, hbx, x0, x1⟩ := hE1'.get hne1
            obtain ⟨bY, oY, rfl, hbY, y0, y1⟩ := hE2.get (show 0 < R.length by omega)
            obtain ⟨⟨k1, s1⟩, hlast⟩ : ∃ p, p = L[L.length - 1] := ⟨_, rfl⟩
            obtain ⟨⟨k2, s2⟩, hfst⟩ : ∃ p, p = R[0] := ⟨_, rfl⟩
            rw [← hlast] at x0 x1
            rw [← hfst] at y0 y1
            have y0 : w2.cell? ⟨bY, oY, none⟩ = some (.int .i64 k2) := y0
            have y1 : w2.cell? ⟨bY, oY + 1, none⟩ = some (.string s2) := y1
            simp only at x0 x1
            have hparts : apartB (k1, s1) (k2, s2) = true → lexL (s ++ t) = L ++ R := fun hap => by
              rw [← hLd, ← hRd]
              refine lexL_parts t ht0 (k2, s2) ?_ s.size s (Nat.le_refl _) hs0 (k1, s1) ?_ hap
              · rw [hRd, hfst, List.head?_eq_getElem?, List.getElem?_eq_getElem (show 0 < R.length by omega)]
              · rw [hLd, hlast, List.getLast?_eq_getElem?, List.getElem?_eq_getElem hne1]
            have HP := Lib.hid hparts
            have HE1 := Lib.hid hE1'
            have HE2 := Lib.hid hE2
            have sk : IntKind.i64.wrap ((L.length : Int) - 1) = ((L.length - 1 : Nat) : Int) := by rw [IntWalk.i64_in _ (by omega)]; omega
            have hk1 : ((L.length - 1 : Nat) : Int) < (L.length : Int) := by omega
            have hk2 : (0 : Int) < (R.length : Int) := by omega
            obtain ⟨w3, hw3⟩ : ∃ w3, w3 = w2.alloc (.cells #[.int .i64 k1, .string s1] 44) := ⟨_, rfl⟩
            have hb3 : Below w2.heap.size w2 w3 := by rw [hw3]; exact (Below.refl _ _).alloc (Nat.le_refl _) _
            have hq3 : w3.heap[w2.heap.size]? = some (.cells #[.int .i64 k1, .string s1] 44 (0, 0)) := by rw [hw3]; exact heap_alloc_new w2 _
            have hB3 := hB2.trans (hb3.mono hB2.size)
            have u0 : w3.cell? ⟨w2.heap.size, 0, none⟩ = some (.int .i64 k1) := Lib.cell_of_heap hq3 0
            have u1 : w3.cell? ⟨w2.heap.size, 1, none⟩ = some (.string s1) := Lib.cell_of_heap hq3 1
            have z0 : w3.cell? ⟨bY, oY, none⟩ = some (.int .i64 k2) := (hb3.cell hbY).trans y0
            have z1 : w3.cell? ⟨bY, oY + 1, none⟩ = some (.string s2) := (hb3.cell hbY).trans y1
            have l3 : w2.heap.size < w3.heap.size := by rw [hw3]; simp
            have lY : bY < w3.heap.size := Nat.lt_of_lt_of_le hbY hb3.size
            clear hparts hE1' hE2 hq3 hlast hfst
            by_cases k12 : k1 = 2
            · have q2 : (k1 == 2) = true := by simpa using k12
              clear k12
              go_wp2_with fail
              rw [← hw3]
              clear hw3
              go_quiet (fail)
              go_wp2_with fail
              with_reducible refine (alive_any _ (HT.out.below (below_drewT hB3 _))).mono ?_
              rintro e wz ⟨rfl, hbz⟩
              go_wp2_with fail
              go_ret
              exact ⟨rfl, (below_drewT hB3 _).trans (hbz.mono (below_drewT hB3 _).size)⟩
            · have q2 : (k1 == 2) = false := by simpa using k12
              clear k12
              by_cases k18 : k1 = 8
              · have q8 : (k1 == 8) = true := by simpa using k18
                clear k18
                go_wp2_with fail
                rw [← hw3]
                clear hw3
                go_quiet (fail)
                go_wp2_with fail
                with_reducible refine (alive_any _ (HT.out.below (below_drewT hB3 _))).mono ?_
                rintro e wz ⟨rfl, hbz⟩
                go_wp2_with fail
                go_ret
                exact ⟨rfl, (below_drewT hB3 _).trans (hbz.mono (below_drewT hB3 _).size)⟩
              · have q8 : (k1 == 8) = false := by simpa using k18
                clear k18
                cases hap : apartB (k1, s1) (k2, s2)
                · have hApart : ∀ W, Tabs W → Calls Tryd.prog 31 #[.agg #[.int .i64 k1, .string s1], .agg #[.int .i64 k2, .string s2]] W fun e w' => e = .returned (.bool false) ∧ Below W.heap.size W w' := fun W h => by
                    have h2 := Apart_any k1 s1 k2 s2 W h
                    rw [hap] at h2; exact h2
                  have HA := Lib.hid hApart
                  clear hApart hap
                  go_wp2_with fail
                  rw [← hw3]
                  clear hw3
                  go_region_held3 (fun W => Below w3.heap.size w3 W ∧ W.cell? ⟨w2.heap.size, 0, none⟩ = some (.int .i64 k1) ∧ W.cell? ⟨w2.heap.size, 1, none⟩ = some (.string s1) ∧ W.cell? ⟨bY, oY, none⟩ = some (.int .i64 k2) ∧ W.cell? ⟨bY, oY + 1, none⟩ = some (.string s2))
                    (exact pt_kept (by repeat (first | with_reducible exact Below.refl _ _ | with_reducible assumption | with_reducible refine Below.drew ?_ | with_reducible refine below_drewT ?_ _ | with_reducible refine below_callT ?_ (Nat.le_refl _) hbA)) l3 lY u0 u1 z0 z1)
                    ((go_at_call 31
                      with_reducible refine (HA.out _ ?_).mono ?_
                      · exact (HT.out.below hB3).below (by repeat (first | with_reducible exact Below.refl _ _ | with_reducible assumption | with_reducible refine Below.drew ?_ | with_reducible refine below_drewT ?_ _ | with_reducible refine below_callT ?_ (Nat.le_refl _) hbA))
                      rintro e wA ⟨rfl, hbA⟩))
                  all_goals
                    have hbw : Below w3.heap.size w3 wA := by repeat (first | with_reducible exact Below.refl _ _ | with_reducible assumption | with_reducible refine Below.drew ?_ | with_reducible refine below_drewT ?_ _ | with_reducible refine below_callT ?_ (Nat.le_refl _) hbA)
                    have hB4 := hB3.trans (hbw.mono hB3.size)
                    go_wp2_with fail
                    with_reducible refine (alive_any wA (HT.out.below hB4)).mono ?_
                    rintro e wz ⟨rfl, hbz⟩
                    go_wp2_with fail
                    go_ret
                    exact ⟨rfl, hB4.trans (hbz.mono hB4.size)⟩
                · have hApart : ∀ W, Tabs W → Calls Tryd.prog 31 #[.agg #[.int .i64 k1, .string s1], .agg #[.int .i64 k2, .string s2]] W fun e w' => e = .returned (.bool true) ∧ Below W.heap.size W w' := fun W h => by
                    have h2 := Apart_any k1 s1 k2 s2 W h
                    rw [hap] at h2; exact h2
                  have HA := Lib.hid hApart
                  have HLP := Lib.hid (HP.out hap)
                  have cat : ¬ s.size + t.size > 9223372036854775807 := by omega
                  have cat2 : s.size + t.size ≤ 9223372036854775807 := by omega
                  have hst : (s ++ t).size ≤ 20000 := by rw [size_append]; omega
                  clear hApart hap
                  go_wp2_with fail
                  rw [← hw3]
                  clear hw3
                  go_region_held3 (fun W => Below w3.heap.size w3 W ∧ W.cell? ⟨w2.heap.size, 0, none⟩ = some (.int .i64 k1) ∧ W.cell? ⟨w2.heap.size, 1, none⟩ = some (.string s1) ∧ W.cell? ⟨bY, oY, none⟩ = some (.int .i64 k2) ∧ W.cell? ⟨bY, oY + 1, none⟩ = some (.string s2))
                    (exact pt_kept (by repeat (first | with_reducible exact Below.refl _ _ | with_reducible assumption | with_reducible refine Below.drew ?_ | with_reducible refine below_drewT ?_ _ | with_reducible refine below_callT ?_ (Nat.le_refl _) hbA)) l3 lY u0 u1 z0 z1)
                    ((go_at_call 31
                      with_reducible refine (HA.out _ ?_).mono ?_
                      · exact (HT.out.below hB3).below (by repeat (first | with_reducible exact Below.refl _ _ | with_reducible assumption | with_reducible refine Below.drew ?_ | with_reducible refine below_drewT ?_ _ | with_reducible refine below_callT ?_ (Nat.le_refl _) hbA))
                      rintro e wA ⟨rfl, hbA⟩))
                  all_goals
                    have hbw : Below w3.heap.size w3 wA := by repeat (first | with_reducible exact Below.refl _ _ | with_reducible assumption | with_reducible refine Below.drew ?_ | with_reducible refine below_drewT ?_ _ | with_reducible refine below_callT ?_ (Nat.le_refl _) hbA)
                    have hB4 := hB3.trans (hbw.mono hB3.size)
                    have hb24 := hb3.trans (hbw.mono hb3.size)
                    clear hbA u0 u1 z0 z1
                    go_wp2_with fail
                    with_reducible refine (Lex_own (s ++ t) wA hst (HT.out.below hB4)).mono ?_
                    rw [HLP.out]
                    rintro e w5 ⟨v5, rfl, ho5, hb5⟩
                    obtain ⟨A5, c5, rfl, hE5, _, _⟩ := TksV.of_own ho5
                    clear ho5
                    have hB5 := hB4.trans (hb5.mono hB4.size)
                    have hb25 := hb24.trans (hb5.mono hb24.size)
                    obtain ⟨i0, hi0, hz0, hzz1, hz2⟩ := info_parts infoTok
                    have hown6 := World.ownsRow_lit (base := w5.heap.size) (e := 44) (size := 2) w5 #[] 0 (Nat.le_refl _) (by decide) (by simp)
                    have hb6 : Below w5.heap.size w5 (w5.alloc (.cells #[] 44)) := (Below.refl _ _).alloc (Nat.le_refl _) _
                    have hX6 := HE1.out.below (hb25.trans (hb6.mono hb25.size))
                    have hY6 := HE2.out.below (hb25.trans (hb6.mono hb25.size))
                    have hs6 := hb6.size
                    go_wp2_with (at_builtin; refine wpList_append_want _ (by first | rfl | decide | simp [Region.wanted]) _ _ 23 rfl w5.heap.size 44 i0 _ 2 24 Tryd.underlying23 hi0 hz0 hzz1 hz2 rfl (by decide) _ 0 [] rfl hown6 ⟨bx, ox, none⟩ L.length c1 (tkCells L) rfl (tkCells_length L) (tks_news hX6) (tkCells_one L) ?c3 ?c4 ?c5 ?_)
                    case c3 => unfold maxLen; omega
                    case c4 => omega
                    case c5 => exact hs6
                    intro v7 w7 hown7 hgrow7 _
                    have hb7 : Below w5.heap.size w5 w7 := hb6.grown hgrow7 hs6 (fun g hg => (hown6.lt g hg).1)
                    have hY7 := HE2.out.below (hb25.trans (hb7.mono hb25.size))
                    have hs7 := hb7.size
                    clear hX6 hY6 hown6 hgrow7
                    go_wp2_with (at_builtin; refine wpList_append_want _ (by first | rfl | decide | simp [Region.wanted]) _ _ 23 rfl w5.heap.size 44 i0 _ 2 24 Tryd.underlying23 hi0 hz0 hzz1 hz2 rfl (by decide) _ L.length (tkCells L) rfl hown7 ⟨bY, oY, none⟩ R.length c2 (tkCells R) rfl (tkCells_length R) (tks_news hY7) (tkCells_one R) ?d3 ?d4 ?d5 ?_)
                    case d3 => unfold maxLen; omega
                    case d4 => omega
                    case d5 => exact hs7
                    intro v8 w8 hown8 hgrow8 _
                    have hb8 : Below w5.heap.size w5 w8 := hb7.grown hgrow8 hs7 (fun g hg => (hown7.lt g hg).1)
                    obtain ⟨A8, c8, rfl, hE8, _, _⟩ := TksV.of_own (l := L ++ R) (by rw [List.length_append, show tkCells (L ++ R) = tkCells L ++ tkCells R by simp [tkCells]]; exact hown8)
                    have hB8 := hB5.trans (hb8.mono hB5.size)
                    have hsm := RSame_any c5 c8 A5 A8 (L ++ R) (L ++ R) w8 (by rw [List.length_append]; omega) (hE5.below hb8) hE8
                    rw [decide_eq_true rfl, List.length_append] at hsm
                    have Hsm := Lib.hid hsm
                    clear hsm hown7 hown8 hgrow8 hY7 hE5 hE8
                    go_wp2_with fail
                    with_reducible refine Hsm.out.mono ?_
                    rintro e w9 ⟨rfl, hb9⟩
                    have hB9 := hB8.trans (hb9.mono hB8.size)
                    go_wp2_with fail
                    with_reducible refine (alive_any w9 (HT.out.below hB9)).mono ?_
                    rintro e wz ⟨rfl, hbz⟩
                    go_wp2_with fail
                    go_ret
                    exact ⟨rfl, hB9.trans (hbz.mono hB9.size)⟩
end Go.Proofs.YtmdgclcakogggaaDoor.lawTokenParts
