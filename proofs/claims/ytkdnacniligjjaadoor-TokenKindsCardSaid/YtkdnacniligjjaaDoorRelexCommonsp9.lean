/-
  The contract of the specification's Cut of layer 3.; A slice of edits in memory: what it reads as; kept by whatever leaves the old blocks alone.; From a contract 'it returns true, and no old block has turned' to a law's row: whatever the parameters.
-/
import Derived.Test.YtkdnacniligjjaaDoorRelexCommonsp8
import Derived.BigQuiet
import Derived.Deep.QuietTactic
import Derived.Test.YtkdnacniligjjaaDoorRelexCommonsp1
import Derived.WalkKit
import Derived.Lib.Hide
import Derived.Test.YtkdnacniligjjaaDoorRows
import Derived.ProofKit
import Derived.OpenShut
import Derived.ShutString
import Derived.WideKeyArgs
import Derived.Deep.Slices
import Derived.Deep.Fields
import Derived.ChangeSame
import Derived.Lib.SmallJoins
namespace Go.Proofs.YtkdnacniligjjaaDoor
set_option linter.unusedVariables false
set_option linter.unusedSimpArgs false
open Go.RowKit

def cutF : Nat → List Tok → List Tok
  | _, [] => []
  | left, p :: r => (p.1, p.2.extract 0 (min p.2.size left)) :: cutF (left - min p.2.size left) r
/-- a copy of tokens that is not large -/
def cutT (l : List Tok) : List Tok := cutF 20001 (l.take 20001)
theorem cutF_length : ∀ (l : List Tok) (left : Nat), (cutF left l).length = l.length
  | [], _ => rfl
  | p :: r, left => by simp only [cutF, List.length_cons]; rw [cutF_length r]
theorem cutF_cat : ∀ (l : List Tok) (left : Nat), (catL (cutF left l)).length ≤ left
  | [], _ => Nat.zero_le _
  | p :: r, left => by
    have h := cutF_cat r (left - min p.2.size left)
    have hs : (p.2.extract 0 (min p.2.size left)).size = min p.2.size left := by rw [ByteArray.size_extract]; omega
    show (byt (p.2.extract 0 (min p.2.size left)) ++ catL (cutF (left - min p.2.size left) r)).length ≤ left
    rw [List.length_append, byt_length, hs]
    omega
theorem cutF_small : ∀ (l : List Tok) (left : Nat), ∀ p ∈ cutF left l, p.2.size ≤ left
  | [], _, p, hp => by cases hp
  | q :: r, left, p, hp => by
    rcases List.mem_cons.1 hp with rfl | hp
    · simp only [ByteArray.size_extract]; omega
    · have := cutF_small r _ p hp; omega
theorem cutT_length (l : List Tok) : (cutT l).length ≤ 20001 := by unfold cutT; rw [cutF_length, List.length_take]; omega
theorem cutT_cat (l : List Tok) : (catL (cutT l)).length ≤ 20001 := cutF_cat _ _
theorem cutT_small (l : List Tok) : ∀ p ∈ cutT l, p.2.size ≤ 20001 := cutF_small _ _

set_option maxRecDepth 100000 in
set_option maxHeartbeats 2000000 in
theorem RCut_own (c : Nat) (A : Option Addr) (l : List Tok) (w : World) (hl : l.length ≤ maxLen) (hsz : ∀ p ∈ l, p.2.size ≤ maxLen) (hE : TksV w A l) :
    Calls Tryd.prog 11 #[.slice A l.length c] w fun e w' => ∃ v, e = .returned v ∧ w'.ownsRow w.heap.size 24 2 v (cutT l).length (tkCells (cutT l)) ∧ Below w.heap.size w w' := by
  unfold maxLen at hl hsz
  obtain ⟨i0, hi0, hz0, hz1, hz2⟩ := info_parts infoTok
  have HE := Lib.hid hE
  have HS := Lib.hid hsz
  clear hE hsz
  go_enter Tryd.func11, Tryd.ntmps11
  go_wp2_with fail
  go_loopw [3, 4, 5, 6] (fun v lf i _ wr => ∃ (k left : Nat) (pre : List Tok) (v0 : Value), v0 = v ∧ k ≤ l.length ∧ k ≤ 20001 ∧ i = .int .i64 k ∧ lf = .int .i64 left ∧ left ≤ 20001 ∧ pre.length ≤ k ∧ k ≤ pre.length ∧ pre ++ cutF left ((l.take 20001).drop k) = cutT l ∧ wr.ownsRow w.heap.size 24 2 v0 pre.length (tkCells pre) ∧ Below w.heap.size w wr) (fun _ _ i _ _ => l.length - (intOf i).toNat)
  case atStart => exact ⟨0, 20001, [], _, rfl, Nat.zero_le _, by omega, rfl, rfl, Nat.le_refl _, Nat.le_refl _, Nat.le_refl _, rfl, World.ownsRow_nil _ _ _ _, Below.refl _ _⟩
  case round =>
    obtain ⟨k, left, pre, v, rfl, hk, hk2, rfl, rfl, hle, hpl, hpl2, he, hown, hB⟩ := hrel
    have hk0 : (0 : Int) ≤ (k : Int) := by omega
    by_cases hlt : k < l.length
    · have hk3 : (k : Int) < (l.length : Int) := by omega
      by_cases h20 : k ≤ 20000
      · have h20i : (k : Int) ≤ 20000 := by omega
        have h20q : decide ((k : Int) ≤ 20000) = true := by simp; omega
        obtain ⟨b, off, rfl, hbb, m0, m1⟩ := (HE.out.below hB).get hlt
        have hxs := HS.out l[k] (List.getElem_mem hlt)
        have hdrop : (l.take 20001).drop k = l[k] :: (l.take 20001).drop (k + 1) := by
          rw [List.drop_eq_getElem_cons (by rw [List.length_take]; omega), List.getElem_take]
        rw [hdrop] at he
        obtain ⟨⟨kd, x⟩, hx⟩ : ∃ p, p = l[k] := ⟨_, rfl⟩
        rw [← hx] at m0 m1 hxs he
        simp only [cutF] at m0 m1 hxs he
        by_cases hlx : left < x.size
        · have hme : min x.size left = left := by omega
          have hye : x.extract 0 (min x.size left) = x.extract 0 left := by rw [hme]
          rw [hye, hme] at he
          have hyz : (x.extract 0 left).size = left := by rw [ByteArray.size_extract]; omega
          obtain ⟨y, hy⟩ : ∃ y, y = x.extract 0 left := ⟨_, rfl⟩
          rw [← hy] at he hyz
          have He := Lib.hid he
          have hmx : left ≤ x.size := by omega
          have hml : left ≤ left := by omega
          have hm1 : (0 : Int) ≤ (left : Int) := by omega
          have hm2 : (left : Int) ≤ (x.size : Int) := by omega
          have sm : IntKind.i64.wrap ((left : Int) - (y.size : Int)) = ((left - left : Nat) : Int) := by rw [hyz, IntWalk.i64_in _ (by omega)]; omega
          have hyb : (y.size : Int) ≤ (left : Int) := by omega
          have hs1 := hB.size
          have HYZ := Lib.hid hyz
          have HY := Lib.hid hy
          clear hx hdrop he hyz hye hme hy
          go_wp2_with fail
          go_quiet (fail)
          rw [← HY.out]
          obtain ⟨w2, hw2⟩ : ∃ w2, w2 = wr.drewN nq := ⟨_, rfl⟩
          rw [← hw2]
          have hown2 : w2.ownsRow w.heap.size 24 2 v pre.length (tkCells pre) := by rw [hw2]; exact hown
          have hB2 : Below w.heap.size w w2 := by rw [hw2]; exact below_drewT hB _
          have m02 : w2.cell? ⟨b, off + k * 2, none⟩ = some (.int .i64 kd) := by rw [hw2]; exact m0
          have hs2 := hB2.size
          clear hw2 hown hB m0 m1
          go_wp2_with (at_builtin; refine wpList_append_own _ rfl _ _ 22 rfl w.heap.size 24 i0 _ 2 24 Tryd.underlying22 hi0 hz0 hz1 hz2 rfl (by decide) _ _ _ rfl (hown2.alloc _) ⟨w2.heap.size, 0, none⟩ 1 1 [.int .i64 kd, .string y] rfl rfl ?c1a ?c2a ?c3a ?c4a ?c5a ?_)
          case c1a => exact World.news_of_block (heap_alloc_new w2 _)
          case c2a => simp [Value.oneCell']
          case c3a => unfold maxLen; omega
          case c4a => omega
          case c5a => first | omega | (simp; omega)
          intro v' w4 hown4 hgrow _
          have hB4 := (hB2.alloc hs2 (.cells #[.int .i64 kd, .string y] 24)).grown hgrow (by simp; omega) (fun g hg => (hown2.lt g hg).1)
          rw [← tkCells_append pre (kd, y)] at hown4
          have Ho4 := Lib.hid hown4
          have HB4 := Lib.hid hB4
          clear hown2 hown4 hB2 hB4 hgrow
          go_wp2_with fail
          refine ⟨⟨k + 1, left - left, pre ++ [(kd, y)], _, rfl, by omega, by omega, by go_num, by go_num, by omega, by simp; omega, by simp; omega, by rw [List.append_assoc]; exact He.out, ?_, HB4.out⟩, by simp only [intOf]; omega⟩
          rw [show (pre ++ [((kd, y) : Tok)]).length = pre.length + 1 by simp]
          exact Ho4.out
        · have hme : min x.size left = x.size := by omega
          have hye : x.extract 0 (min x.size left) = x := by rw [hme]; exact all_head x
          rw [hye, hme] at he
          have He := Lib.hid he
          have hmx : x.size ≤ x.size := by omega
          have hml : x.size ≤ left := by omega
          have hm1 : (0 : Int) ≤ (x.size : Int) := by omega
          have hm2 : (x.size : Int) ≤ (x.size : Int) := by omega
          have sm : IntKind.i64.wrap ((left : Int) - (x.size : Int)) = ((left - x.size : Nat) : Int) := by rw [IntWalk.i64_in _ (by omega)]; omega
          have hyb : (x.size : Int) ≤ (left : Int) := by omega
          have hs1 := hB.size
          clear hx hdrop he hye hme
          go_wp2_with fail
          go_quiet (fail)
          obtain ⟨w2, hw2⟩ : ∃ w2, w2 = wr.drewN nq := ⟨_, rfl⟩
          rw [← hw2]
          have hown2 : w2.ownsRow w.heap.size 24 2 v pre.length (tkCells pre) := by rw [hw2]; exact hown
          have hB2 : Below w.heap.size w w2 := by rw [hw2]; exact below_drewT hB _
          have m02 : w2.cell? ⟨b, off + k * 2, none⟩ = some (.int .i64 kd) := by rw [hw2]; exact m0
          have hs2 := hB2.size
          clear hw2 hown hB m0 m1
          go_wp2_with (at_builtin; refine wpList_append_own _ rfl _ _ 22 rfl w.heap.size 24 i0 _ 2 24 Tryd.underlying22 hi0 hz0 hz1 hz2 rfl (by decide) _ _ _ rfl (hown2.alloc _) ⟨w2.heap.size, 0, none⟩ 1 1 [.int .i64 kd, .string x] rfl rfl ?c1b ?c2b ?c3b ?c4b ?c5b ?_)
          case c1b => exact World.news_of_block (heap_alloc_new w2 _)
          case c2b => simp [Value.oneCell']
          case c3b => unfold maxLen; omega
          case c4b => omega
          case c5b => first | omega | (simp; omega)
          intro v' w4 hown4 hgrow _
          have hB4 := (hB2.alloc hs2 (.cells #[.int .i64 kd, .string x] 24)).grown hgrow (by simp; omega) (fun g hg => (hown2.lt g hg).1)
          rw [← tkCells_append pre (kd, x)] at hown4
          have Ho4 := Lib.hid hown4
          have HB4 := Lib.hid hB4
          clear hown2 hown4 hB2 hB4 hgrow
          go_wp2_with fail
          refine ⟨⟨k + 1, left - x.size, pre ++ [(kd, x)], _, rfl, by omega, by omega, by go_num, by go_num, by omega, by simp; omega, by simp; omega, by rw [List.append_assoc]; exact He.out, ?_, HB4.out⟩, by simp only [intOf]; omega⟩
          rw [show (pre ++ [((kd, x) : Tok)]).length = pre.length + 1 by simp]
          exact Ho4.out
      · have h20i : ¬ (k : Int) ≤ 20000 := by omega
        have h20q : decide ((k : Int) ≤ 20000) = false := by simp; omega
        have hdrop : (l.take 20001).drop k = [] := List.drop_eq_nil_of_le (by rw [List.length_take]; omega)
        rw [hdrop] at he
        simp only [cutF, List.append_nil] at he
        subst he
        clear hdrop
        go_wp2_with fail
        go_ret
        exact ⟨_, rfl, hown, hB⟩
    · have hdrop : (l.take 20001).drop k = [] := List.drop_eq_nil_of_le (by rw [List.length_take]; omega)
      rw [hdrop] at he
      simp only [cutF, List.append_nil] at he
      subst he
      have hk3 : decide ((k : Int) < (l.length : Int)) = false := by simp; omega
      clear hdrop
      go_wp2_with fail
      go_ret
      exact ⟨_, rfl, hown, hB⟩
end Go.Proofs.YtkdnacniligjjaaDoor

namespace Go.Proofs.YtkdnacniligjjaaDoor
open Go.RowKit

def edCells (e : Ed) : List Value := [.int .i64 e.f, .int .i64 e.t, .string e.s]
def edsCells (l : List Ed) : List Value := l.flatMap edCells

/-- the slice at A reads as l -/
def EdsV (w : World) (A : Option Addr) (l : List Ed) : Prop :=
  0 < l.length → ∃ b off, A = some ⟨b, off, none⟩ ∧ b < w.heap.size ∧
    ∀ i e, l[i]? = some e → w.cell? ⟨b, off + i * 3, none⟩ = some (.int .i64 e.f) ∧ w.cell? ⟨b, off + i * 3 + 1, none⟩ = some (.int .i64 e.t) ∧
      w.cell? ⟨b, off + i * 3 + 2, none⟩ = some (.string e.s)

theorem EdsV.nil (w : World) (A : Option Addr) : EdsV w A [] := fun h => absurd h (by simp)
theorem EdsV.keep {w w' : World} {A : Option Addr} {l : List Ed} (h : EdsV w A l) (hs : w.heap.size ≤ w'.heap.size) (hc : ∀ b o, b < w.heap.size → w'.cell? ⟨b, o, none⟩ = w.cell? ⟨b, o, none⟩) : EdsV w' A l := by
  intro hl
  obtain ⟨b, off, rfl, hb, hg⟩ := h hl
  exact ⟨b, off, rfl, by omega, fun i e he => by
    obtain ⟨h1, h2, h3⟩ := hg i e he
    exact ⟨by rw [hc _ _ hb]; exact h1, by rw [hc _ _ hb]; exact h2, by rw [hc _ _ hb]; exact h3⟩⟩
theorem EdsV.below {w w' : World} {A : Option Addr} {l : List Ed} (h : EdsV w A l) (hb : Below w.heap.size w w') : EdsV w' A l :=
  h.keep hb.size fun _ _ hlt => hb.cell hlt
theorem EdsV.get {w : World} {A : Option Addr} {l : List Ed} (h : EdsV w A l) {k : Nat} (hk : k < l.length) :
    ∃ b off, A = some ⟨b, off, none⟩ ∧ b < w.heap.size ∧ w.cell? ⟨b, off + k * 3, none⟩ = some (.int .i64 l[k].f) ∧ w.cell? ⟨b, off + k * 3 + 1, none⟩ = some (.int .i64 l[k].t) ∧
      w.cell? ⟨b, off + k * 3 + 2, none⟩ = some (.string l[k].s) := by
  obtain ⟨b, off, rfl, hb, hg⟩ := h (by omega)
  exact ⟨b, off, rfl, hb, hg k _ (List.getElem?_eq_getElem hk)⟩

/-- the same, with naturals for offsets that are not below 0 -/
theorem EdsV.getN {w : World} {A : Option Addr} {l : List Ed} (h : EdsV w A l) {k : Nat} (hk : k < l.length) (h0 : 0 ≤ l[k].f) (h1 : 0 ≤ l[k].t) :
    ∃ (b off x y : Nat) (s : ByteArray), A = some ⟨b, off, none⟩ ∧ b < w.heap.size ∧ w.cell? ⟨b, off + k * 3, none⟩ = some (.int .i64 (x : Int)) ∧ w.cell? ⟨b, off + k * 3 + 1, none⟩ = some (.int .i64 (y : Int)) ∧
      w.cell? ⟨b, off + k * 3 + 2, none⟩ = some (.string s) ∧ l[k] = ⟨x, y, s⟩ := by
  obtain ⟨b, off, rfl, hb, c1, c2, c3⟩ := h.get hk
  refine ⟨b, off, l[k].f.toNat, l[k].t.toNat, l[k].s, rfl, hb, ?_, ?_, c3, ?_⟩
  · rw [Int.toNat_of_nonneg h0]; exact c1
  · rw [Int.toNat_of_nonneg h1]; exact c2
  · rw [Int.toNat_of_nonneg h0, Int.toNat_of_nonneg h1]

theorem edsCells_length (l : List Ed) : (edsCells l).length = l.length * 3 := by
  unfold edsCells
  induction l with
  | nil => rfl
  | cons e l ih => simp [List.flatMap_cons, edCells, ih]; omega
theorem edsCells_get (l : List Ed) : ∀ (i : Nat) (e : Ed), l[i]? = some e → (edsCells l)[i * 3]? = some (.int .i64 e.f) ∧ (edsCells l)[i * 3 + 1]? = some (.int .i64 e.t) ∧ (edsCells l)[i * 3 + 2]? = some (.string e.s) := by
  induction l with
  | nil => intro i e h; simp at h
  | cons x l ih =>
    intro i e h
    have hx : edsCells (x :: l) = .int .i64 x.f :: .int .i64 x.t :: .string x.s :: edsCells l := by simp [edsCells, edCells]
    rw [hx]
    match i with
    | 0 => simp at h; subst h; simp
    | i + 1 =>
      obtain ⟨h1, h2, h3⟩ := ih i e (by simpa using h)
      rw [show (i + 1) * 3 = i * 3 + 3 by omega, show i * 3 + 3 + 1 = i * 3 + 1 + 3 by omega, show i * 3 + 3 + 2 = i * 3 + 2 + 3 by omega]
      exact ⟨by simpa using h1, by simpa using h2, by simpa using h3⟩
theorem edsCells_append (l : List Ed) (e : Ed) : edsCells (l ++ [e]) = edsCells l ++ edCells e := by simp [edsCells]
theorem edsCells_one (l : List Ed) : ∀ u ∈ edsCells l, u.oneCell' = true := by
  intro u hu
  simp only [edsCells, List.mem_flatMap, edCells] at hu
  obtain ⟨e, _, he⟩ := hu
  simp at he
  rcases he with rfl | rfl | rfl <;> rfl

/-- a row of the call's own that holds the cells of l reads as l -/
theorem EdsV.of_own {w : World} {base e : Nat} {v : Value} {l : List Ed} (h : w.ownsRow base e 3 v l.length (edsCells l)) :
    ∃ A c, v = .slice A l.length c ∧ EdsV w A l ∧ (∀ a, A = some a → base ≤ a.block) := by
  rcases h.2 with ⟨rfl, h0⟩ | ⟨g, cap, cur, rfl, hb, hg, hn, hc, hs, ht⟩
  · have : l = [] := List.eq_nil_of_length_eq_zero h0
    subst this
    exact ⟨none, 0, rfl, EdsV.nil _ _, fun a ha => by cases ha⟩
  · refine ⟨some ⟨g, 0, none⟩, cap, rfl, fun hl => ⟨g, 0, rfl, ?_, fun i e he => ?_⟩, fun a ha => by cases ha; exact hb⟩
    · rcases Nat.lt_or_ge g w.heap.size with hlt | hge
      · exact hlt
      · rw [Array.getElem?_eq_none hge] at hg; cases hg
    · obtain ⟨h1, h2, h3⟩ := edsCells_get l i e he
      have hi : i < l.length := by
        rcases Nat.lt_or_ge i l.length with hlt | hge
        · exact hlt
        · rw [List.getElem?_eq_none hge] at he; cases he
      have hcell : ∀ j, j < l.length * 3 → w.cell? ⟨g, j, none⟩ = (edsCells l)[j]? := by
        intro j hj
        rw [← ht, List.getElem?_take_of_lt hj]
        simp [World.cell?, hg]
      simp only [Nat.zero_add]
      exact ⟨by rw [hcell _ (by omega)]; exact h1, by rw [hcell _ (by omega)]; exact h2, by rw [hcell _ (by omega)]; exact h3⟩

theorem ret_bool {a b : Bool} (h : a = b) : Ending.returned (.bool a) = .returned (.bool b) := by rw [h]
theorem ret_int {k : IntKind} {a b : Int} (h : a = b) : Ending.returned (.int k a) = .returned (.int k b) := by rw [h]
theorem ret_str {a b : ByteArray} (h : a = b) : Ending.returned (.string a) = .returned (.string b) := by rw [h]
theorem bcell {W w1 : World} (hb : Below W.heap.size W w1) : (∀ b o, b < W.heap.size → w1.cell? ⟨b, o, none⟩ = W.cell? ⟨b, o, none⟩) ∧ (∀ b o, b < W.heap.size → w1.frozen? ⟨b, o, none⟩ = W.frozen? ⟨b, o, none⟩) :=
  ⟨fun b o h => hb.cell (p := ⟨b, o, none⟩) h, fun b o h => hb.frozen (p := ⟨b, o, none⟩) h⟩
theorem below_drewN {B : Nat} {a w : World} (h : Below B a w) (n : Nat) : Below B a (w.drewN n) := ⟨h.os, h.tape, h.output, h.size, h.block⟩
end Go.Proofs.YtkdnacniligjjaaDoor

namespace Go.Proofs.YtkdnacniligjjaaDoor
set_option linter.unusedVariables false
set_option linter.unusedSimpArgs false
open Go.ChangeShapes Go.WideShapes Go.RowKit Go.Deep

section
variable {H : Type} {enc : TypeId × Value → H} {P : Program}

theorem trodAll_stays {W W' : World} {sp : Nat → Bool} (hl : laidOutB P = true) (hsame : ∀ p : MemPlace, p.block < W.heap.size → W.sameAt W' p) :
    ∀ {ts : List TypeId} {vs : List Value} {ds : List (DataW H)} {ps : List MemPlace}, (∀ t ∈ ts, P.readableRec t = true ∧ t < P.types.size) → (∀ p ∈ ps, p.block < W.heap.size) → (∀ p ∈ ps, sp p.block = true) →
      DataW.TrodAll enc P W 0 (fun _ => true) true ts vs ds ps → DataW.TrodAll enc P W' 0 sp true ts vs ds ps
  | [], vs, ds, ps, _, _, _, h => by
    obtain ⟨rfl, rfl, rfl⟩ := trodAll_nil h
    exact rfl
  | t :: ts, vs, ds, ps, ht, hp, hs, h => by
    obtain ⟨v, vs', d, ds', p, q, rfl, rfl, rfl, h1, h2⟩ := trodAll_cons h
    have hin : ∀ x ∈ p, x ∈ p ++ q := fun x hx => List.mem_append.2 (.inl hx)
    have hin2 : ∀ x ∈ q, x ∈ p ++ q := fun x hx => List.mem_append.2 (.inr hx)
    exact trodAll_cons_mk (WideElems.Trod_stays hl (ht t (by simp)).1 (ht t (by simp)).2 h1 (fun x hx => hsame x (hp x (hin x hx))) (fun x hx => hs x (hin x hx)))
      (trodAll_stays hl hsame (fun t' h' => ht t' (by simp [h'])) (fun x hx => hp x (hin2 x hx)) (fun x hx => hs x (hin2 x hx)) h2)

theorem law_post {f : Func} {s : ChangeSpec} {W W' : World} {args : Array Value} {ds : List (DataW H)} {before : List MemPlace} {tb : TypeId}
    (hl : laidOutB P = true) (hts : ∀ t ∈ f.params.toList, P.readableRec t = true ∧ t < P.types.size) (hrt : f.resultTypes = #[tb]) (htb : P.underlying tb = some .bool) (hvs : s.vars = [])
    (hfn : s.fn H ds = { results := [.lit (.bool true)], args := ds })
    (hW : DataW.Whole enc P f.params.toList s.vars false W args.toList ds [] before) (hb : Below W.heap.size W W') :
    s.post enc P f false true false false W args (.bool true) W' := by
  have hlt : ∀ p ∈ before, p.block < W.heap.size := fun p hp => hW.lt p hp
  have hW0 := hW
  obtain ⟨pa, pv, hA, hV, hbe, hz, hn⟩ := hW
  rw [hvs] at hV
  have hV' : pv = [] := hV
  subst hV'
  have hbe' : before = pa := by simpa using hbe
  subst hbe'
  have hargs : ∀ sp : Nat → Bool, (∀ p ∈ before, sp p.block = true) → DataW.TrodAll enc P W' 0 sp true f.params.toList args.toList (s.fn H (ds ++ [])).args before := by
    intro sp hsp
    rw [List.append_nil, hfn]
    exact trodAll_stays hl (fun p hp => hb.same hp) hts hlt hsp hA
  have hres : ∀ (b : Nat) (sp : Nat → Bool) (hd : Bool), DataW.TrodAll enc P W' b sp hd f.resultTypes.toList ((Value.bool true).resultList f.resultTypes.size) (s.fn H (ds ++ [])).results [] := by
    intro b sp hd
    rw [List.append_nil, hfn, hrt]
    exact trodAll_cons_mk (shut_bool htb true) trodAll_mk0
  have hvars : ∀ sp : Nat → Bool, (∀ p ∈ before, sp p.block = true) → DataW.TrodVars enc P W' sp s.vars (s.fn H (ds ++ [])).vars [] := by
    intro sp _
    rw [List.append_nil, hfn, hvs]
    rfl
  have hold : ∀ p ∈ before, (fun b => decide (b < W.heap.size)) p.block = true := fun p hp => by simpa using hlt p hp
  refine ⟨ds, [], before, [], before, [], hW0, hres _ _ _, hargs _ hold, hvars _ hold, World.keptBut_mono (fun p hp => ⟨hp, by simp [hp]⟩) (hb.frame (· ∈ before)), fun _ => ?_⟩
  refine ⟨?_, _, _, ([] ++ before) ++ [], ⟨[] ++ before, [], trodAll_append (hargs _ (fun _ _ => rfl)) (hres _ _ _), hvars _ (fun _ _ => rfl), rfl, ?_, ?_⟩, ?_⟩
  · intro j t r hj hr
    rw [hrt] at hj hr
    match j with
    | 0 =>
      simp at hj
      subst hj
      have : r = .bool true := by simpa [Value.resultList] using hr.symm
      subst this
      exact okWide_bool_mk htb true
    | j + 1 => simp at hj
  · intro b off hp
    have hin : MemPlace.cell b off ∈ before := by simpa using hp
    rw [hb.frozen (hlt _ hin)]
    exact hz b off hin
  · intro ha
    cases ha
  · intro p hp _
    simpa using hp
end
end Go.Proofs.YtkdnacniligjjaaDoor
