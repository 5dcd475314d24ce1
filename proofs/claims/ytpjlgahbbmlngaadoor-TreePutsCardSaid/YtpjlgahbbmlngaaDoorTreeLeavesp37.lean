/-
  From a contract 'it returns true, and no old block has turned' to a law's row: whatever the parameters.; The two tables in memory, as the rows lay them.; Layer 4's laws read two tables, token's words and signs: what a world that has them gives, and a world that has them.; What the cards' frames of the tree's laws take.
-/
import Derived.Test.YtpjlgahbbmlngaaDoorTreeLeavesp20
import Derived.Test.YtpjlgahbbmlngaaDoorRows
import Derived.ProofKit
import Derived.OpenShut
import Derived.ShutString
import Derived.WideKeyArgs
import Derived.Deep.Slices
import Derived.Deep.Fields
import Derived.ChangeSame
import Derived.Lib.SmallJoins
import Derived.Test.YtpjlgahbbmlngaaDoorTreeLeavesp3
import Derived.Lib.LaidU8T
import Derived.Lib.LaidIn
import Derived.PinnedBridge
import Derived.LaidHandle
import Derived.KernelRfl
import Derived.Test.YtpjlgahbbmlngaaDoorTreeLeavesp32
import Derived.SevenTiedAt
import Derived.ChangeVars
import Derived.JoinedOf
import Derived.RowKitTokens
import Derived.LaidLaws
import Derived.Stop.Joined
namespace Go.Proofs.YtpjlgahbbmlngaaDoor
set_option linter.unusedVariables false
set_option linter.unusedSimpArgs false
open Go.ChangeShapes Go.WideShapes Go.RowKit Go.Deep

section
variable {H : Type} {enc : TypeId × Value → H} {P : Program}

theorem trodAll_stays {W W' : World} {sp : Nat → Bool} (hl : laidOutB P = true) (hsame : ∀ p : MemPlace, p.block < W.heap.size → W.sameAt W' p) :
    ∀ {ts : List TypeId} {vs : List Value} {ds : List (DataW H)} {ps : List MemPlace}, (∀ t ∈ ts, P.readableRec t = true ∧ t < P.types.size) → (∀ p ∈ ps, p.block < W.heap.size) → (∀ p ∈ ps, sp p.block = true) →
      DataW.TrodAll enc P W 0 (fun _ => true) true ts vs ds ps → DataW.TrodAll enc P W' 0 sp true ts vs ds ps
  | [], vs, ds, ps, _, _, _, h => by
    obtain ⟨rfl, rfl, rfl⟩ := trodAll_nil h
    exact rfl
  | t :: ts, vs, ds, ps, ht, hp, hs, h => by
    obtain ⟨v, vs', d, ds', p, q, rfl, rfl, rfl, h1, h2⟩ := trodAll_cons h
    have hin : ∀ x ∈ p, x ∈ p ++ q := fun x hx => List.mem_append.2 (.inl hx)
    have hin2 : ∀ x ∈ q, x ∈ p ++ q := fun x hx => List.mem_append.2 (.inr hx)
    exact trodAll_cons_mk (WideElems.Trod_stays hl (ht t (by simp)).1 (ht t (by simp)).2 h1 (fun x hx => hsame x (hp x (hin x hx))) (fun x hx => hs x (hin x hx)))
      (trodAll_stays hl hsame (fun t' h' => ht t' (by simp [h'])) (fun x hx => hp x (hin2 x hx)) (fun x hx => hs x (hin2 x hx)) h2)

theorem law_post {f : Func} {s : ChangeSpec} {W W' : World} {args : Array Value} {ds : List (DataW H)} {before : List MemPlace} {tb : TypeId}
    (hl : laidOutB P = true) (hts : ∀ t ∈ f.params.toList, P.readableRec t = true ∧ t < P.types.size) (hrt : f.resultTypes = #[tb]) (htb : P.underlying tb = some .bool) (hvs : s.vars = [])
    (hfn : s.fn H ds = { results := [.lit (.bool true)], args := ds })
    (hW : DataW.Whole enc P f.params.toList s.vars false W args.toList ds [] before) (hb : Below W.heap.size W W') :
    s.post enc P f false true false false W args (.bool true) W' := by
  have hlt : ∀ p ∈ before, p.block < W.heap.size := fun p hp => hW.lt p hp
  have hW0 := hW
  obtain ⟨pa, pv, hA, hV, hbe, hz, hn⟩ := hW
  rw [hvs] at hV
  have hV' : pv = [] := hV
  subst hV'
  have hbe' : before = pa := by simpa using hbe
  subst hbe'
  have hargs : ∀ sp : Nat → Bool, (∀ p ∈ before, sp p.block = true) → DataW.TrodAll enc P W' 0 sp true f.params.toList args.toList (s.fn H (ds ++ [])).args before := by
    intro sp hsp
    rw [List.append_nil, hfn]
    exact trodAll_stays hl (fun p hp => hb.same hp) hts hlt hsp hA
  have hres : ∀ (b : Nat) (sp : Nat → Bool) (hd : Bool), DataW.TrodAll enc P W' b sp hd f.resultTypes.toList ((Value.bool true).resultList f.resultTypes.size) (s.fn H (ds ++ [])).results [] := by
    intro b sp hd
    rw [List.append_nil, hfn, hrt]
    exact trodAll_cons_mk (shut_bool htb true) trodAll_mk0
  have hvars : ∀ sp : Nat → Bool, (∀ p ∈ before, sp p.block = true) → DataW.TrodVars enc P W' sp s.vars (s.fn H (ds ++ [])).vars [] := by
    intro sp _
    rw [List.append_nil, hfn, hvs]
    rfl
  have hold : ∀ p ∈ before, (fun b => decide (b < W.heap.size)) p.block = true := fun p hp => by simpa using hlt p hp
  refine ⟨ds, [], before, [], before, [], hW0, hres _ _ _, hargs _ hold, hvars _ hold, World.keptBut_mono (fun p hp => ⟨hp, by simp [hp]⟩) (hb.frame (· ∈ before)), fun _ => ?_⟩
  refine ⟨?_, _, _, ([] ++ before) ++ [], ⟨[] ++ before, [], trodAll_append (hargs _ (fun _ _ => rfl)) (hres _ _ _), hvars _ (fun _ _ => rfl), rfl, ?_, ?_⟩, ?_⟩
  · intro j t r hj hr
    rw [hrt] at hj hr
    match j with
    | 0 =>
      simp at hj
      subst hj
      have : r = .bool true := by simpa [Value.resultList] using hr.symm
      subst this
      exact okWide_bool_mk htb true
    | j + 1 => simp at hj
  · intro b off hp
    have hin : MemPlace.cell b off ∈ before := by simpa using hp
    rw [hb.frozen (hlt _ hin)]
    exact hz b off hin
  · intro ha
    cases ha
  · intro p hp _
    simpa using hp
end
end Go.Proofs.YtpjlgahbbmlngaaDoor

namespace Go.Proofs.YtpjlgahbbmlngaaDoor
set_option linter.unusedVariables false
set_option linter.unusedSimpArgs false
open Go.Lib Go.Proofs

def strsData (l : List ByteArray) : DataW Unit := .agg (l.map fun s => .lit (.string s.data.toList))
theorem words_eq : (Rows.laid_marginalia_token_words : DataW Unit) = strsData wordsB := by rfl
theorem signs_eq : (Rows.laid_marginalia_token_signs : DataW Unit) = strsData signsB := by rfl

set_option maxRecDepth 100000 in
theorem strs_of_reads {name : String} {g n : Nat} {t : TypeId} {l : List ByteArray} (hn : Tryd.prog.globalNamed name = some g) (hy : (Tryd.prog.globals[g]?).map (·.type) = some t) (ht : Tryd.prog.underlying t = some (.array n 9)) (hc : Tryd.prog.cellsOf 9 = 1)
    {w : World} (h : VarReads Tryd.prog w name (strsData l)) (k : Nat) (hk : k < n) : w.cell? ⟨g, k, none⟩ = some (.string (l[k]?.getD ByteArray.empty)) := by
  obtain ⟨g', t', cs, fuel, p, hg, hty, hvar, hd⟩ := h
  obtain rfl := Option.some.inj (hn.symm.trans hg)
  obtain rfl := Option.some.inj (hy.symm.trans hty)
  obtain ⟨fuel', d, q, hdi, he⟩ := array_elem ht hd k hk
  rw [hc] at he
  obtain ⟨s, hs, hx, _⟩ := DataW.trod_string Tryd.underlying9 he
  have hd2 : d = .lit (.string s.data.toList) := congrArg Prod.fst hx
  simp only [List.getElem?_map, Option.map_eq_some_iff] at hdi
  obtain ⟨s', hs', hdd⟩ := hdi
  rw [hd2] at hdd
  injection hdd with hdd
  injection hdd with hdd
  have hss : s' = s := bytj hdd
  subst hss
  rw [World.var?_cell hg hvar k, ← Array.getElem?_toList]
  have e0 := congrArg (·[0]?) hs
  simp only [List.getElem?_take, List.getElem?_drop] at e0
  simpa [hs'] using e0

def litV : DataW Unit → Value
  | .lit (.int k z) => .int k z
  | .lit (.string b) => .string ⟨b.toArray⟩
  | _ => .nilIface
def aggV : DataW Unit → Array Value
  | .agg ds => (ds.map litV).toArray
  | _ => #[]
end Go.Proofs.YtpjlgahbbmlngaaDoor

namespace Go.Proofs.YtpjlgahbbmlngaaDoor
set_option linter.unusedVariables false
set_option linter.unusedSimpArgs false
open Go.RowKit Go.Lib Go.Proofs

noncomputable abbrev laidListR : List (String × DataW Unit) := [("marginalia/token.words", Rows.laid_marginalia_token_words), ("marginalia/token.signs", Rows.laid_marginalia_token_signs)]
set_option maxRecDepth 100000 in
theorem tabs_of_laidR {W : World} (h : laidMet Tryd.prog laidListR W) : Tabs W := by
  have h5 := Lib.laidMet.reads h (n := "marginalia/token.words") (.head _)
  have h6 := Lib.laidMet.reads h (n := "marginalia/token.signs") (.tail _ (.head _))
  rw [words_eq] at h5
  rw [signs_eq] at h6
  exact ⟨fun k hk => strs_of_reads (n := 12) (by kernel_rfl) (by kernel_rfl) Tryd.underlying165 (by kernel_rfl) h5 k hk, fun k hk => strs_of_reads (n := 22) (by kernel_rfl) (by kernel_rfl) Tryd.underlying163 (by kernel_rfl) h6 k hk⟩
noncomputable def laidWorldR (os : Os) : World :=
  let w0 := World.holding Tryd.prog os ⟨#[], #[], []⟩
  let put (h : Array Obj) (g : Nat) (cs : Array Value) : Array Obj := h.modify g fun
    | .cells _ t frozen => .cells cs t frozen
    | o => o
  let h1 := put w0.heap 2 (aggV Rows.laid_marginalia_token_words)
  let h2 := put h1 1 (aggV Rows.laid_marginalia_token_signs)
  { w0 with heap := h2 }
set_option maxRecDepth 100000 in
theorem laidWorldR_met (os : Os) (args : Array Value) : laidMet Tryd.prog laidListR ((laidWorldR os).forCall (fun _ _ => 0) ⟨#[], args, []⟩).memory :=
  (LaidIn.of_run [2, 1] 8 (by kernel_rfl) (by kernel_rfl) (by kernel_rfl) (by kernel_rfl)).met
end Go.Proofs.YtpjlgahbbmlngaaDoor

namespace Go.Proofs.YtpjlgahbbmlngaaDoor
end Go.Proofs.YtpjlgahbbmlngaaDoor
