/-
  Merge, of whatever edits; Edit, of whatever edits; what stores into a row of one's own leave alone.
-/
import Derived.Test.YtmdgclcakogggaaMerge
import Derived.Test.YtmdgclcakogggaaEditNo
import Derived.Test.YtmdgclcakogggaaKeepRP
namespace Go.Proofs.Ytmdgclcakogggaa
set_option linter.unusedVariables false
set_option linter.unusedSimpArgs false
open Go.RowKit

theorem own_cap2 {w : World} {base e size n : Nat} {A : Option Addr} {c : Nat} {xs : List Value} (h : w.ownsRow base e size (.slice A n c) n xs) : n ≤ c := by
  rcases h.2 with ⟨h1, h2⟩ | ⟨g, cap, cur, h1, _, _, h2, _⟩
  · omega
  · injection h1 with _ _ h3; omega

set_option maxRecDepth 100000 in
set_option maxHeartbeats 1000000 in
theorem Merge_own (t : ByteArray) (F G : List Ed) (cf cg : Nat) (A AG : Option Addr) (w : World) (hF : Small F) (hG : Small G) (ht : t.size ≤ 60000) (hcg : G.length ≤ cg) (hE : EdsV w A F) (hE2 : EdsV w AG G) :
    Calls Try.prog 12 #[.string t, .slice A F.length cf, .slice AG G.length cg] w fun e w' => ∃ M er, OwnsEds w M er e w' ∧ M.length ≤ 1000 ∧ (er = 0 ∨ checkE t.size F ≠ 0 ∨ 0 < F.length + G.length) := by
  by_cases h0 : checkE t.size F = 0
  · by_cases h1 : checkE (applyB t F).size G = 0
    · refine (Merge_ok t F G cf cg A AG w hF hG ht h0 h1 hcg hE hE2).mono ?_
      rintro e w' ⟨M, er, ho, hm⟩
      refine ⟨M, er, ho, ?_, ?_⟩
      · rcases hm with ⟨_, h, _⟩ | ⟨_, rfl, _⟩
        · exact h.1
        · exact Nat.zero_le _
      · rcases hm with ⟨h, _⟩ | ⟨_, _, h⟩
        · exact .inl h
        · exact .inr (.inr (by omega))
    · have c4 := checkE_ok h0
      have hXz := applyB_size c4.2.2.1
      have hX : (applyB t F).size ≤ 60000 := by omega
      have hpos : 0 < F.length + G.length := by
        rcases Nat.eq_zero_or_pos G.length with h | h
        · have : G = [] := List.eq_nil_of_length_eq_zero h
          subst this
          exact absurd (checkE_of (by omega) (by simp) rfl (by simp [sumG]; omega)) h1
        · omega
      have H0 := Lib.hid h0
      have H1 := Lib.hid (applyR_ok h0)
      have q : (checkE ((applyB t F).size : Int) G != 0) = true := by simpa using h1
      clear h0 h1 c4 hXz
      go_enter Try.func12, Try.ntmps12
      go_wp2_with fail
      with_reducible refine (Apply_any t cf A F w hF ht hE).mono ?_
      rw [H0.out, H1.out]
      rintro e w1 ⟨rfl, hb1⟩
      go_wp2_with fail
      with_reducible refine (Check_any (applyB t F) cg AG G w1 hG hX (hE2.below hb1)).mono ?_
      rintro e w2 ⟨rfl, hb2⟩
      have hB2 := hb1.trans (hb2.mono hb1.size)
      go_wp2_with fail
      go_ret2
      exact ⟨[], _, ⟨_, rfl, World.ownsRow_nil _ _ _ _, hB2⟩, Nat.zero_le _, .inr (.inr hpos)⟩
  · have q : (checkE (t.size : Int) F != 0) = true := by simpa using h0
    have H0 := Lib.hid h0
    have H1 := Lib.hid (applyR_no h0)
    clear h0
    go_enter Try.func12, Try.ntmps12
    go_wp2_with fail
    with_reducible refine (Apply_any t cf A F w hF ht hE).mono ?_
    rw [H1.out]
    rintro e w1 ⟨rfl, hb1⟩
    go_wp2_with fail
    go_ret2
    exact ⟨[], _, ⟨_, rfl, World.ownsRow_nil _ _ _ _, hb1⟩, Nat.zero_le _, .inr (.inl H0.out)⟩

theorem checkLen_is {n : Nat} {l : List Ed} (h : n ≤ 20000) : checkE n l = checkLen n l := by unfold checkE; rw [if_neg (by omega)]

/-- Edit of whatever edits: the new rope, or the error -/
theorem Edit_own (v bef : Value) (T : ByteArray) (c : Nat) (A : Option Addr) (l : List Ed) (w : World) (hl : Small l) (hts : T.size ≤ 20000) (hE : EdsV w A l) (hR : RopeAt w v (pcOf T) bef) :
    Calls Try.prog 10 #[v, .slice A l.length c] w fun e w' => ∃ vn t', e = .returned (.tuple #[vn, .int .i64 (checkE T.size l)]) ∧ Below w.heap.size w w' ∧ (checkE T.size l = 0 → RopeAt w' vn t' v ∧ mkB t'.text = applyB T l ∧ t'.size ≤ 60000) := by
  have ht := pcOf_text T
  have hz : (pcOf T).size = T.size := pcOf_size T
  by_cases h0 : checkE T.size l = 0
  · obtain ⟨c1, c2, c3, c4⟩ := checkE_ok h0
    have hs := applyB_size c3
    have hlen : (editedL T T.size 0 l).length ≤ 20000 := by
      have : (applyB T l).size = (editedL T T.size 0 l).length := mkB_size _
      omega
    refine (Edit_ok v bef (pcOf T) T c A l w hl ht (by rw [← checkLen_is hts]; exact h0) hts c3 hlen hE hR).mono ?_
    rintro e w' ⟨t', ⟨vn, rfl, hR', hb⟩, ht'⟩
    exact ⟨vn, t', by rw [h0], hb, fun _ => ⟨hR', by rw [ht']; rfl, by rw [size_of_text ht']; omega⟩⟩
  · refine (Edit_no v bef (pcOf T) c A l w hl (by rw [hz, ← checkLen_is hts]; exact h0) (by omega) hE hR).mono ?_
    rintro e w' ⟨rfl, hb⟩
    exact ⟨_, .nil, by rw [hz, ← checkLen_is hts], hb, fun h => absurd h h0⟩

theorem EdsV.setOther {w : World} {A : Option Addr} {l : List Ed} (h : EdsV w A l) {g i : Nat} {u : Value} (hne : ∀ a, A = some a → a.block ≠ g) : EdsV (w.setCell ⟨g, i, none⟩ u) A l := by
  refine h.keepAt (by simp [World.setCell]) fun b off e hb => Below.heap_setCell _ _ _ _ (hne _ e)
theorem keepRP_set {w : World} {g i : Nat} {u : Value} {base e size n cap : Nat} {xs : List Value} (hown : w.ownsRow base e size (.slice (some ⟨g, 0, none⟩) n cap) n xs) (h1 : e ≠ 79) (h2 : e ≠ 47) : KeepRP w (w.setCell ⟨g, i, none⟩ u) := by
  refine ⟨by simp [World.setCell], fun b cs T hT hh => ?_⟩
  refine Below.heap_setCell _ _ _ _ ?_
  simp only
  intro hbg
  rcases hown.2 with ⟨h, _⟩ | ⟨g', cap', cur, h, _, hg2, _⟩
  · injection h with h; cases h
  · injection h with h
    injection h with h
    injection h with h
    subst h
    subst hbg
    rw [hh] at hg2
    have hTe : T = e := by simpa using (congrArg (fun o => match o with | some (Obj.cells _ T _) => T | _ => 0) hg2)
    rcases hT with hT | hT
    · exact h1 (hTe.symm.trans hT)
    · exact h2 (hTe.symm.trans hT)
theorem cutE_idem (m : Nat) (e : Ed) : cutE m (cutE m e) = cutE m e := by
  obtain ⟨f, t, s⟩ := e
  simp only [cutE, Ed.mk.injEq, true_and]
  have hz : (s.extract 0 (min s.size m)).size = min s.size m := by rw [ByteArray.size_extract]; omega
  rw [hz, show min (min s.size m) m = min s.size m by omega]
  apply ByteArray.ext
  simp [ByteArray.data_extract]
theorem cutL_idem (m : Nat) (l : List Ed) : cutL m (cutL m l) = cutL m l := by
  unfold cutL
  rw [← List.map_take, List.take_take, Nat.min_self, List.map_map]
  apply List.map_congr_left
  intro e _
  exact cutE_idem m e
end Go.Proofs.Ytmdgclcakogggaa
