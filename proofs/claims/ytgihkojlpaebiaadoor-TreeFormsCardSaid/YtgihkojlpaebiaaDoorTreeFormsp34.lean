/-
  From a contract 'it returns true, and no old block has turned' to a law's row: whatever the parameters.; The two tables in memory, as the rows lay them.; Layer 4's laws read two tables, token's words and signs: what a world that has them gives, and a world that has them.; Arguments opened: tokens' cells.; Trees: a Node as an argument.; What the cards' frames of the tree's laws take.
-/
import Derived.Test.YtgihkojlpaebiaaDoorTreeFormsp18
import Derived.Test.YtgihkojlpaebiaaDoorRows
import Derived.ProofKit
import Derived.OpenShut
import Derived.ShutString
import Derived.WideKeyArgs
import Derived.Deep.Slices
import Derived.Deep.Fields
import Derived.ChangeSame
import Derived.Lib.SmallJoins
import Derived.Test.YtgihkojlpaebiaaDoorTreeFormsp3
import Derived.Lib.LaidU8T
import Derived.Lib.LaidIn
import Derived.PinnedBridge
import Derived.LaidHandle
import Derived.KernelRfl
import Derived.Test.YtgihkojlpaebiaaDoorTreeFormsp5
import Derived.Test.YtgihkojlpaebiaaDoorTreeFormsp30
import Derived.SevenTiedAt
import Derived.ChangeVars
import Derived.JoinedOf
import Derived.RowKitTokens
import Derived.LaidLaws
import Derived.Stop.Joined
namespace Go.Proofs.YtgihkojlpaebiaaDoor
set_option linter.unusedVariables false
set_option linter.unusedSimpArgs false
open Go.ChangeShapes Go.WideShapes Go.RowKit Go.Deep

section
variable {H : Type} {enc : TypeId × Value → H} {P : Program}

theorem trodAll_stays {W W' : World} {sp : Nat → Bool} (hl : laidOutB P = true) (hsame : ∀ p : MemPlace, p.block < W.heap.size → W.sameAt W' p) :
    ∀ {ts : List TypeId} {vs : List Value} {ds : List (DataW H)} {ps : List MemPlace}, (∀ t ∈ ts, P.readableRec t = true ∧ t < P.types.size) → (∀ p ∈ ps, p.block < W.heap.size) → (∀ p ∈ ps, sp p.block = true) →
      DataW.TrodAll enc P W 0 (fun _ => true) true ts vs ds ps → DataW.TrodAll enc P W' 0 sp true ts vs ds ps
  | [], vs, ds, ps, _, _, _, h => by
    obtain ⟨rfl, rfl, rfl⟩ := trodAll_nil h
    exact rfl
  | t :: ts, vs, ds, ps, ht, hp, hs, h => by
    obtain ⟨v, vs', d, ds', p, q, rfl, rfl, rfl, h1, h2⟩ := trodAll_cons h
    have hin : ∀ x ∈ p, x ∈ p ++ q := fun x hx => List.mem_append.2 (.inl hx)
    have hin2 : ∀ x ∈ q, x ∈ p ++ q := fun x hx => List.mem_append.2 (.inr hx)
    exact trodAll_cons_mk (WideElems.Trod_stays hl (ht t (by simp)).1 (ht t (by simp)).2 h1 (fun x hx => hsame x (hp x (hin x hx))) (fun x hx => hs x (hin x hx)))
      (trodAll_stays hl hsame (fun t' h' => ht t' (by simp [h'])) (fun x hx => hp x (hin2 x hx)) (fun x hx => hs x (hin2 x hx)) h2)

theorem law_post {f : Func} {s : ChangeSpec} {W W' : World} {args : Array Value} {ds : List (DataW H)} {before : List MemPlace} {tb : TypeId}
    (hl : laidOutB P = true) (hts : ∀ t ∈ f.params.toList, P.readableRec t = true ∧ t < P.types.size) (hrt : f.resultTypes = #[tb]) (htb : P.underlying tb = some .bool) (hvs : s.vars = [])
    (hfn : s.fn H ds = { results := [.lit (.bool true)], args := ds })
    (hW : DataW.Whole enc P f.params.toList s.vars false W args.toList ds [] before) (hb : Below W.heap.size W W') :
    s.post enc P f false true false false W args (.bool true) W' := by
  have hlt : ∀ p ∈ before, p.block < W.heap.size := fun p hp => hW.lt p hp
  have hW0 := hW
  obtain ⟨pa, pv, hA, hV, hbe, hz, hn⟩ := hW
  rw [hvs] at hV
  have hV' : pv = [] := hV
  subst hV'
  have hbe' : before = pa := by simpa using hbe
  subst hbe'
  have hargs : ∀ sp : Nat → Bool, (∀ p ∈ before, sp p.block = true) → DataW.TrodAll enc P W' 0 sp true f.params.toList args.toList (s.fn H (ds ++ [])).args before := by
    intro sp hsp
    rw [List.append_nil, hfn]
    exact trodAll_stays hl (fun p hp => hb.same hp) hts hlt hsp hA
  have hres : ∀ (b : Nat) (sp : Nat → Bool) (hd : Bool), DataW.TrodAll enc P W' b sp hd f.resultTypes.toList ((Value.bool true).resultList f.resultTypes.size) (s.fn H (ds ++ [])).results [] := by
    intro b sp hd
    rw [List.append_nil, hfn, hrt]
    exact trodAll_cons_mk (shut_bool htb true) trodAll_mk0
  have hvars : ∀ sp : Nat → Bool, (∀ p ∈ before, sp p.block = true) → DataW.TrodVars enc P W' sp s.vars (s.fn H (ds ++ [])).vars [] := by
    intro sp _
    rw [List.append_nil, hfn, hvs]
    rfl
  have hold : ∀ p ∈ before, (fun b => decide (b < W.heap.size)) p.block = true := fun p hp => by simpa using hlt p hp
  refine ⟨ds, [], before, [], before, [], hW0, hres _ _ _, hargs _ hold, hvars _ hold, World.keptBut_mono (fun p hp => ⟨hp, by simp [hp]⟩) (hb.frame (· ∈ before)), fun _ => ?_⟩
  refine ⟨?_, _, _, ([] ++ before) ++ [], ⟨[] ++ before, [], trodAll_append (hargs _ (fun _ _ => rfl)) (hres _ _ _), hvars _ (fun _ _ => rfl), rfl, ?_, ?_⟩, ?_⟩
  · intro j t r hj hr
    rw [hrt] at hj hr
    match j with
    | 0 =>
      simp at hj
      subst hj
      have : r = .bool true := by simpa [Value.resultList] using hr.symm
      subst this
      exact okWide_bool_mk htb true
    | j + 1 => simp at hj
  · intro b off hp
    have hin : MemPlace.cell b off ∈ before := by simpa using hp
    rw [hb.frozen (hlt _ hin)]
    exact hz b off hin
  · intro ha
    cases ha
  · intro p hp _
    simpa using hp
end
end Go.Proofs.YtgihkojlpaebiaaDoor

namespace Go.Proofs.YtgihkojlpaebiaaDoor
set_option linter.unusedVariables false
set_option linter.unusedSimpArgs false
open Go.Lib Go.Proofs

def strsData (l : List ByteArray) : DataW Unit := .agg (l.map fun s => .lit (.string s.data.toList))
theorem words_eq : (Rows.laid_marginalia_token_words : DataW Unit) = strsData wordsB := by rfl
theorem signs_eq : (Rows.laid_marginalia_token_signs : DataW Unit) = strsData signsB := by rfl

set_option maxRecDepth 100000 in
theorem strs_of_reads {name : String} {g n : Nat} {t : TypeId} {l : List ByteArray} (hn : Tryd.prog.globalNamed name = some g) (hy : (Tryd.prog.globals[g]?).map (·.type) = some t) (ht : Tryd.prog.underlying t = some (.array n 9)) (hc : Tryd.prog.cellsOf 9 = 1)
    {w : World} (h : VarReads Tryd.prog w name (strsData l)) (k : Nat) (hk : k < n) : w.cell? ⟨g, k, none⟩ = some (.string (l[k]?.getD ByteArray.empty)) := by
  obtain ⟨g', t', cs, fuel, p, hg, hty, hvar, hd⟩ := h
  obtain rfl := Option.some.inj (hn.symm.trans hg)
  obtain rfl := Option.some.inj (hy.symm.trans hty)
  obtain ⟨fuel', d, q, hdi, he⟩ := array_elem ht hd k hk
  rw [hc] at he
  obtain ⟨s, hs, hx, _⟩ := DataW.trod_string Tryd.underlying9 he
  have hd2 : d = .lit (.string s.data.toList) := congrArg Prod.fst hx
  simp only [List.getElem?_map, Option.map_eq_some_iff] at hdi
  obtain ⟨s', hs', hdd⟩ := hdi
  rw [hd2] at hdd
  injection hdd with hdd
  injection hdd with hdd
  have hss : s' = s := bytj hdd
  subst hss
  rw [World.var?_cell hg hvar k, ← Array.getElem?_toList]
  have e0 := congrArg (·[0]?) hs
  simp only [List.getElem?_take, List.getElem?_drop] at e0
  simpa [hs'] using e0

def litV : DataW Unit → Value
  | .lit (.int k z) => .int k z
  | .lit (.string b) => .string ⟨b.toArray⟩
  | _ => .nilIface
def aggV : DataW Unit → Array Value
  | .agg ds => (ds.map litV).toArray
  | _ => #[]
end Go.Proofs.YtgihkojlpaebiaaDoor

namespace Go.Proofs.YtgihkojlpaebiaaDoor
set_option linter.unusedVariables false
set_option linter.unusedSimpArgs false
open Go.RowKit Go.Lib Go.Proofs

noncomputable abbrev laidListR : List (String × DataW Unit) := [("marginalia/token.words", Rows.laid_marginalia_token_words), ("marginalia/token.signs", Rows.laid_marginalia_token_signs)]
set_option maxRecDepth 100000 in
theorem tabs_of_laidR {W : World} (h : laidMet Tryd.prog laidListR W) : Tabs W := by
  have h5 := Lib.laidMet.reads h (n := "marginalia/token.words") (.head _)
  have h6 := Lib.laidMet.reads h (n := "marginalia/token.signs") (.tail _ (.head _))
  rw [words_eq] at h5
  rw [signs_eq] at h6
  exact ⟨fun k hk => strs_of_reads (n := 12) (by kernel_rfl) (by kernel_rfl) Tryd.underlying165 (by kernel_rfl) h5 k hk, fun k hk => strs_of_reads (n := 22) (by kernel_rfl) (by kernel_rfl) Tryd.underlying163 (by kernel_rfl) h6 k hk⟩
noncomputable def laidWorldR (os : Os) : World :=
  let w0 := World.holding Tryd.prog os ⟨#[], #[], []⟩
  let put (h : Array Obj) (g : Nat) (cs : Array Value) : Array Obj := h.modify g fun
    | .cells _ t frozen => .cells cs t frozen
    | o => o
  let h1 := put w0.heap 2 (aggV Rows.laid_marginalia_token_words)
  let h2 := put h1 1 (aggV Rows.laid_marginalia_token_signs)
  { w0 with heap := h2 }
set_option maxRecDepth 100000 in
theorem laidWorldR_met (os : Os) (args : Array Value) : laidMet Tryd.prog laidListR ((laidWorldR os).forCall (fun _ _ => 0) ⟨#[], args, []⟩).memory :=
  (LaidIn.of_run [2, 1] 8 (by kernel_rfl) (by kernel_rfl) (by kernel_rfl) (by kernel_rfl)).met
end Go.Proofs.YtgihkojlpaebiaaDoor

namespace Go.Proofs.YtgihkojlpaebiaaDoor
set_option linter.unusedVariables false
set_option linter.unusedSimpArgs false
open Go Go.Deep

theorem cellsTok : Tryd.prog.cellsOf 23 = 2 := by kernel_rfl
theorem cells3T : Tryd.prog.cellsOf 3 = 1 := by kernel_rfl
theorem cells9T : Tryd.prog.cellsOf 9 = 1 := by kernel_rfl
theorem build_listT {α : Type} {Q : Nat → α → Prop} : ∀ n : Nat, (∀ i, i < n → ∃ e, Q i e) → ∃ l : List α, l.length = n ∧ ∀ i e, l[i]? = some e → Q i e
  | 0, _ => ⟨[], rfl, fun i e h => by simp at h⟩
  | n + 1, h => by
    obtain ⟨l, hl, hq⟩ := build_listT n (fun i hi => h i (by omega))
    obtain ⟨e, he⟩ := h n (by omega)
    refine ⟨l ++ [e], by simp [hl], fun i x hx => ?_⟩
    rw [List.getElem?_append] at hx
    by_cases hi : i < l.length
    · rw [if_pos hi] at hx; exact hq i x hx
    · rw [if_neg hi] at hx
      have : i - l.length = 0 := by
        rcases Nat.eq_zero_or_pos (i - l.length) with h0 | h0
        · exact h0
        · rw [List.getElem?_eq_none (by simp; omega)] at hx; cases hx
      rw [this] at hx
      have hin : i = n := by omega
      simp at hx
      subst hx
      subst hin
      exact he
def tkC (p : Tok) : List Value := [.int .i64 p.1, .string p.2]

section
variable {H : Type} {enc : TypeId × Value → H} {w : World} {base : Nat} {spare : Nat → Bool} {held : Bool}

set_option maxRecDepth 100000 in
theorem tok_of {fuel : Nat} {cs : List Value} {x : DataW H × List MemPlace} (h : DataW.trod enc Tryd.prog w base spare held fuel 23 cs = some x) :
    ∃ p : Tok, cs = tkC p ∧ p.2.size ≤ maxLen := by
  obtain ⟨xs, n, _, _, hlen, hxs, hf⟩ := DataW.trod_struct Tryd.underlying23 h
  rw [cellsTok] at hlen
  match cs, hlen with
  | [c0, c1], _ =>
    have h0 := hf 0 { name := "Kind", type := 3, offset := 0, embedded := false, tag := "", pkgPath := "", byteOffset := 0 } rfl
    have h1 := hf 1 { name := "Text", type := 9, offset := 1, embedded := false, tag := "", pkgPath := "", byteOffset := 8 } rfl
    dsimp only at h0 h1
    rw [cells3T] at h0
    rw [cells9T] at h1
    have hx : ∀ i, i < xs.length → ∃ y, xs[i]? = some y := fun i hi => ⟨_, List.getElem?_eq_getElem hi⟩
    have h3 : xs.length = 2 := hxs
    obtain ⟨y0, e0⟩ := hx 0 (by omega)
    obtain ⟨y1, e1⟩ := hx 1 (by omega)
    rw [e0] at h0
    rw [e1] at h1
    obtain ⟨a, ha, _, wa⟩ := DataW.trod_int Tryd.underlying3 h0
    obtain ⟨s, hs, _, ws⟩ := DataW.trod_string Tryd.underlying9 h1
    simp at ha hs
    subst ha hs
    exact ⟨(a, s), rfl, ws⟩

end
end Go.Proofs.YtgihkojlpaebiaaDoor

namespace Go.Proofs.YtgihkojlpaebiaaDoor
set_option linter.unusedVariables false
set_option linter.unusedSimpArgs false
open Go Go.RowKit Go.Deep Go.WideShapes Go.ChangeShapes

theorem cellsNode : Tryd.prog.cellsOf 26 = 4 := by kernel_rfl
theorem cellsNodes : Tryd.prog.cellsOf 24 = 1 := by kernel_rfl
theorem spot_none {w : World} {a : Addr} {n : Nat} {cs : List Value} (h : w.cells? 0 a n = some cs) (hn : 0 < n) (h0 : ∀ u, cs[0]? = some u → u.oneCell' = true) (hc : ∃ k, cs[0]? = some (.int .i64 k)) : ∃ b off, a = ⟨b, off, none⟩ ∧ b < w.heap.size := by
  obtain ⟨_, _, hc0⟩ := World.cells?_some h
  have hc00 := hc0 0 hn
  obtain ⟨k, hk⟩ := hc
  rw [hk] at hc00
  have hsp : a.spot = none := by
    have hz : a.add 0 = a := by simp [Addr.add]
    rw [hz] at hc00
    simp only [World.cell?] at hc00
    split at hc00
    · split at hc00
      · simp at hc00
      · rename_i hns; simpa using hns
    · simp at hc00
  obtain ⟨b, off, sp⟩ := a
  simp only at hsp
  subst hsp
  refine ⟨b, off, rfl, ?_⟩
  rcases Nat.lt_or_ge b w.heap.size with hlt | hge
  · exact hlt
  · simp [World.cell?, Addr.add, Array.getElem?_eq_none hge] at hc00

section
variable {H : Type} {enc : TypeId × Value → H} {w : World} {spare : Nat → Bool} {held : Bool}
set_option maxRecDepth 100000 in
theorem node_cells (fuel : Nat) : ∀ {cs : List Value} {x : DataW H × List MemPlace}, DataW.trod enc Tryd.prog w 0 spare held fuel 26 cs = some x →
    ∃ y : Pn, cs = cells4 y ∧ KidsP (fun _ => True) w y.2.1 y.1.kids ∧ rawN y.1 := by
  induction fuel using Nat.strongRecOn with
  | _ fuel ih =>
    intro cs x h
    obtain ⟨xs, n, rfl, _, hlen, hxs, hf⟩ := DataW.trod_struct Tryd.underlying26 h
    rw [cellsNode] at hlen
    obtain ⟨c0, c1, c2, c3, rfl⟩ : ∃ c0 c1 c2 c3, cs = [c0, c1, c2, c3] := by
      match cs, hlen with
      | [c0, c1, c2, c3], _ => exact ⟨c0, c1, c2, c3, rfl⟩
    have h0 := hf 0 { name := "Kind", type := 3, offset := 0, embedded := false, tag := "", pkgPath := "", byteOffset := 0 } rfl
    have h1 := hf 1 { name := "Token", type := 23, offset := 1, embedded := false, tag := "", pkgPath := "", byteOffset := 8 } rfl
    have h2 := hf 2 { name := "Kids", type := 24, offset := 3, embedded := false, tag := "", pkgPath := "", byteOffset := 32 } rfl
    dsimp only at h0 h1 h2
    rw [cells3T] at h0
    rw [cellsTok] at h1
    rw [cellsNodes] at h2
    have h3 : xs.length = 3 := hxs
    have hx : ∀ i, i < xs.length → ∃ y, xs[i]? = some y := fun i hi => ⟨_, List.getElem?_eq_getElem hi⟩
    obtain ⟨y0, e0⟩ := hx 0 (by omega)
    obtain ⟨y1, e1⟩ := hx 1 (by omega)
    obtain ⟨y2, e2⟩ := hx 2 (by omega)
    rw [e0] at h0
    rw [e1] at h1
    rw [e2] at h2
    obtain ⟨k, hk, _, _⟩ := DataW.trod_int Tryd.underlying3 h0
    obtain ⟨⟨tk, tx⟩, hp, hps⟩ := tok_of h1
    simp [tkC] at hk hp
    obtain rfl := hk
    obtain ⟨rfl, rfl⟩ := hp
    rcases DataW.trod_slice Tryd.underlying24 h2 with ⟨hcs, _⟩ | ⟨a', len, cap, elems, rest, n', hn', hcs, _, hb, hl, hm, hel, hi, _⟩
    · simp at hcs
      subst hcs
      exact ⟨(.mk k (tk, tx) [], none, 0), rfl, fun hl => by simp [Nd.kids] at hl, hps, Nat.zero_le _, trivial⟩
    · simp at hcs
      subst hcs
      rw [cellsNode] at hi
      obtain ⟨ys, hyl, hq⟩ := build_listT (Q := fun i (y : Pn) => w.cells? 0 (a'.add (i * 4)) 4 = some (cells4 y) ∧ KidsP (fun _ => True) w y.2.1 y.1.kids ∧ rawN y.1) len (fun i hi' => by
        have hii := hi i hi'
        rw [List.getElem?_eq_getElem (by omega)] at hii
        obtain ⟨cs', hc1, hc2⟩ := Option.bind_eq_some_iff.1 hii
        obtain ⟨y, rfl, hy1, hy2⟩ := ih n' (by omega) hc2
        exact ⟨y, hc1, hy1, hy2⟩)
      subst hyl
      refine ⟨(.mk k (tk, tx) (ys.map (·.1)), some a', cap), by simp [cells4, Nd.kind, Nd.tok, Nd.kids], fun hpos => ?_, hps, by simp; omega, rawL_of fun z hz => ?_⟩
      · have hpos' : 0 < ys.length := by simpa [Nd.kids] using hpos
        have hz0 := (hq 0 _ (List.getElem?_eq_getElem hpos')).1
        obtain ⟨b, off, he, hbl⟩ := spot_none hz0 (by decide) (by intro u hu; simp [cells4] at hu; subst hu; rfl) ⟨_, rfl⟩
        have ha' : a' = ⟨b, off, none⟩ := by
          have hz : a'.add (0 * 4) = a' := by simp [Addr.add]
          rw [← hz]; exact he
        subst ha'
        refine ⟨b, off, rfl, NdsP.of_cells trivial hbl ys off fun i y hy => ?_⟩
        obtain ⟨q1, q2, _⟩ := hq i y hy
        obtain ⟨_, _, hcc⟩ := World.cells?_some q1
        have hadd : ∀ j : Nat, ((⟨b, off, none⟩ : Addr).add (i * 4)).add j = ⟨b, off + i * 4 + j, none⟩ := by
          intro j
          unfold Addr.add
          by_cases h1 : i * 4 = 0 <;> by_cases h2 : j = 0 <;> simp [h1, h2]
        have hcell : ∀ j, j < 4 → w.cell? ⟨b, off + i * 4 + j, none⟩ = (cells4 y)[j]? := fun j hj => by rw [← hadd]; exact hcc j hj
        exact ⟨hcell 0 (by decide), hcell 1 (by decide), hcell 2 (by decide), hcell 3 (by decide), q2⟩
      · obtain ⟨y, hy, rfl⟩ := List.mem_map.1 hz
        obtain ⟨i, hi', rfl⟩ := List.getElem_of_mem hy
        exact (hq i _ (List.getElem?_eq_getElem hi')).2.2

set_option maxRecDepth 100000 in
theorem node_of_arg {r : Reach} {b0 : Nat} {v : Value} {d : DataW H} {ps : List MemPlace} (hval : Value.okWide Tryd.prog w r b0 26 v) (h : DataW.Trod enc Tryd.prog w 0 (fun _ => true) true 26 v d ps) :
    ∃ n : Nd, NodeV w v n ∧ rawN n := by
  obtain ⟨cs, rfl, hsz⟩ := okWide_struct Tryd.underlying26 hval
  obtain ⟨fuel, hf⟩ := h
  obtain ⟨y, hc, hk, hr⟩ := node_cells fuel hf
  have hcs : cs = #[.int .i64 y.1.kind, .int .i64 y.1.tok.1, .string y.1.tok.2, .slice y.2.1 y.1.kids.length y.2.2] := by
    apply Array.ext'
    simpa [Value.cells, cells4] using hc
  subst hcs
  exact ⟨y.1, ⟨y.2.1, y.2.2, rfl, hk.kids⟩, hr⟩
end
end Go.Proofs.YtgihkojlpaebiaaDoor

namespace Go.Proofs.YtgihkojlpaebiaaDoor
end Go.Proofs.YtgihkojlpaebiaaDoor
