/-
  The variables that the rows list: from the rows' condition to the two tables in memory; a world that meets the condition.; What the cards' frames take.; The contract of the specification's Short.; The contract of the specification's One; a token as an argument.; Arguments opened: a slice of tokens.
-/
import Derived.Test.YtkdnacniligjjaaDoorRelexCommonsp5
import Derived.Test.YtkdnacniligjjaaDoorRows
import Derived.Lib.LaidU8T
import Derived.Lib.LaidIn
import Derived.PinnedBridge
import Derived.LaidHandle
import Derived.KernelRfl
import Derived.Test.YtkdnacniligjjaaDoorRelexCommonsp9
import Derived.SevenTiedAt
import Derived.ChangeVars
import Derived.JoinedOf
import Derived.RowKitTokens
import Derived.LaidLaws
import Derived.Stop.Joined
import Derived.Test.YtkdnacniligjjaaDoorRelexCommonsp1
import Derived.WalkKit
import Derived.Lib.Hide
import Derived.Deep.RegionHeld3
import Derived.Lib.Builder
import Derived.BigRegion
import Derived.Handy
import Derived.Test.YtkdnacniligjjaaDoorRelexCommonsp7
namespace Go.Proofs.YtkdnacniligjjaaDoor
set_option linter.unusedVariables false
set_option linter.unusedSimpArgs false
open Go.Lib Go.Proofs

noncomputable abbrev laidList : List (String × DataW Unit) := [("math/bits.deBruijn32tab", Rows.laid_math_bits_deBruijn32tab), ("math/bits.deBruijn64tab", Rows.laid_math_bits_deBruijn64tab), ("internal/strconv.uint64pow10", Rows.laid_internal_strconv_uint64pow10), ("strconv.ErrRange", Rows.laid_strconv_ErrRange), ("strconv.ErrSyntax", Rows.laid_strconv_ErrSyntax), ("marginalia/token.words", Rows.laid_marginalia_token_words), ("marginalia/token.signs", Rows.laid_marginalia_token_signs)]
def strsData (l : List ByteArray) : DataW Unit := .agg (l.map fun s => .lit (.string s.data.toList))
theorem words_eq : (Rows.laid_marginalia_token_words : DataW Unit) = strsData wordsB := by rfl
theorem signs_eq : (Rows.laid_marginalia_token_signs : DataW Unit) = strsData signsB := by rfl

set_option maxRecDepth 100000 in
theorem strs_of_reads {name : String} {g n : Nat} {t : TypeId} {l : List ByteArray} (hn : Tryd.prog.globalNamed name = some g) (hy : (Tryd.prog.globals[g]?).map (·.type) = some t) (ht : Tryd.prog.underlying t = some (.array n 9)) (hc : Tryd.prog.cellsOf 9 = 1)
    {w : World} (h : VarReads Tryd.prog w name (strsData l)) (k : Nat) (hk : k < n) : w.cell? ⟨g, k, none⟩ = some (.string (l[k]?.getD ByteArray.empty)) := by
  obtain ⟨g', t', cs, fuel, p, hg, hty, hvar, hd⟩ := h
  obtain rfl := Option.some.inj (hn.symm.trans hg)
  obtain rfl := Option.some.inj (hy.symm.trans hty)
  obtain ⟨fuel', d, q, hdi, he⟩ := array_elem ht hd k hk
  rw [hc] at he
  obtain ⟨s, hs, hx, _⟩ := DataW.trod_string Tryd.underlying9 he
  have hd2 : d = .lit (.string s.data.toList) := congrArg Prod.fst hx
  simp only [List.getElem?_map, Option.map_eq_some_iff] at hdi
  obtain ⟨s', hs', hdd⟩ := hdi
  rw [hd2] at hdd
  injection hdd with hdd
  injection hdd with hdd
  have hss : s' = s := bytj hdd
  subst hss
  rw [World.var?_cell hg hvar k, ← Array.getElem?_toList]
  have e0 := congrArg (·[0]?) hs
  simp only [List.getElem?_take, List.getElem?_drop] at e0
  simpa [hs'] using e0

set_option maxRecDepth 100000 in
theorem tabs_of_laid {W : World} (h : laidMet Tryd.prog laidList W) : Tabs W := by
  have h5 := Lib.laidMet.reads h (n := "marginalia/token.words") (.tail _ (.tail _ (.tail _ (.tail _ (.tail _ (.head _))))))
  have h6 := Lib.laidMet.reads h (n := "marginalia/token.signs") (.tail _ (.tail _ (.tail _ (.tail _ (.tail _ (.tail _ (.head _)))))))
  rw [words_eq] at h5
  rw [signs_eq] at h6
  exact ⟨fun k hk => strs_of_reads (n := 12) (by kernel_rfl) (by kernel_rfl) Tryd.underlying150 (by kernel_rfl) h5 k hk, fun k hk => strs_of_reads (n := 22) (by kernel_rfl) (by kernel_rfl) Tryd.underlying137 (by kernel_rfl) h6 k hk⟩

def litV : DataW Unit → Value
  | .lit (.int k z) => .int k z
  | .lit (.string b) => .string ⟨b.toArray⟩
  | _ => .nilIface
def aggV : DataW Unit → Array Value
  | .agg ds => (ds.map litV).toArray
  | _ => #[]
abbrev synS : ByteArray := { data := #[105, 110, 118, 97, 108, 105, 100, 32, 115, 121, 110, 116, 97, 120] }
abbrev rngS : ByteArray := { data := #[118, 97, 108, 117, 101, 32, 111, 117, 116, 32, 111, 102, 32, 114, 97, 110, 103, 101] }
/-- so many blocks has the settled world -/
noncomputable def low : Nat := (World.holding Tryd.prog default ⟨#[], #[], []⟩).heap.size
/-- a world that meets the condition: the settled one, the variables laid -/
noncomputable def laidWorld (os : Os) : World :=
  let w0 := World.holding Tryd.prog os ⟨#[.cells #[.string rngS] 161, .cells #[.string synS] 161], #[], []⟩
  let put (h : Array Obj) (g : Nat) (cs : Array Value) : Array Obj := h.modify g fun
    | .cells _ t frozen => .cells cs t frozen
    | o => o
  let h1 := put w0.heap 2 (aggV Rows.laid_marginalia_token_words)
  let h2 := put h1 0 (aggV Rows.laid_marginalia_token_signs)
  let h3 := put h2 5 (aggV Rows.laid_internal_strconv_uint64pow10)
  let h4 := put h3 6 (aggV Rows.laid_math_bits_deBruijn32tab)
  let h5 := put h4 7 (aggV Rows.laid_math_bits_deBruijn64tab)
  let h6 := put h5 4 #[.iface 159 (.pointer (some ⟨low, 0, none⟩))]
  let h7 := put h6 3 #[.iface 159 (.pointer (some ⟨low + 1, 0, none⟩))]
  { w0 with heap := h7 }
set_option maxRecDepth 100000 in
theorem laidWorld_met (os : Os) (args : Array Value) : laidMet Tryd.prog laidList ((laidWorld os).forCall (fun _ _ => 0) ⟨#[], args, []⟩).memory :=
  (LaidIn.of_run [2, 0, 5, 6, 7, 4, 3, low, low + 1] 8 (by kernel_rfl) (by kernel_rfl) (by kernel_rfl) (by kernel_rfl)).met
end Go.Proofs.YtkdnacniligjjaaDoor

namespace Go.Proofs.YtkdnacniligjjaaDoor
end Go.Proofs.YtkdnacniligjjaaDoor

namespace Go.Proofs.YtkdnacniligjjaaDoor
set_option linter.unusedVariables false
set_option linter.unusedSimpArgs false
open Go.RowKit

def shortT (t : ByteArray) : ByteArray := t.extract 0 (min t.size 20001)
theorem shortT_size (t : ByteArray) : (shortT t).size = min t.size 20001 := by unfold shortT; rw [ByteArray.size_extract]; omega
theorem ShortT_any (t : ByteArray) (w : World) (ht : t.size ≤ maxLen) :
    Calls Tryd.prog 38 #[.string t] w fun e w' => e = .returned (.string (shortT t)) ∧ w = w' := by
  unfold maxLen at ht
  by_cases h : (t.size : Int) ≤ 20001
  · have hr : Hid (shortT t = t) := Lib.hid (by
      apply bytj
      unfold shortT
      rw [show min t.size 20001 = t.size by omega]
      rw [byt_drop, List.drop_zero])
    have hm : min (t.size : Int) 20001 = (t.size : Int) := by omega
    have h0 : ¬ (20001 : Int) < (t.size : Int) := by omega
    go_enter Tryd.func38, Tryd.ntmps38
    go_wp2_with fail
    go_ret
    exact ⟨congrArg (fun x => Ending.returned (.string x)) hr.out.symm, rfl⟩
  · have hr : Hid (shortT t = t.extract 0 20001) := Lib.hid (by unfold shortT; rw [show min t.size 20001 = 20001 by omega])
    have hm : min (t.size : Int) 20001 = 20001 := by omega
    have h0 : (20001 : Int) ≤ (t.size : Int) := by omega
    go_enter Tryd.func38, Tryd.ntmps38
    go_wp2_with fail
    go_ret
    exact ⟨congrArg (fun x => Ending.returned (.string x)) hr.out.symm, rfl⟩
end Go.Proofs.YtkdnacniligjjaaDoor

namespace Go.Proofs.YtkdnacniligjjaaDoor
set_option linter.unusedVariables false
set_option linter.unusedSimpArgs false
open Go.ChangeShapes Go.WideShapes Go.RowKit Go.Deep

theorem cellsTok : Tryd.prog.cellsOf 24 = 2 := by kernel_rfl
section
variable {H : Type} {enc : TypeId × Value → H} {w : World}
set_option maxRecDepth 100000 in
theorem tok_of_arg {r : Reach} {b0 : Nat} {v : Value} {d : DataW H} {ps : List MemPlace} (hval : Value.okWide Tryd.prog w r b0 24 v) (h : DataW.Trod enc Tryd.prog w 0 (fun _ => true) true 24 v d ps) :
    ∃ (k : Int) (s : ByteArray), v = .agg #[.int .i64 k, .string s] ∧ s.size ≤ maxLen := by
  obtain ⟨v0, v1, y0, y1, n, rfl, _, _, h0, h1⟩ := Go.Joins.open_agg2 Tryd.underlying24 (by kernel_rfl) cellsTok hval h
  obtain ⟨a, ha, _, wa⟩ := DataW.trod_int Tryd.underlying3 h0
  obtain ⟨b, hb, _, wb⟩ := DataW.trod_string Tryd.underlying9 h1
  simp at ha hb
  subst ha hb
  exact ⟨a, b, rfl, wb⟩
end

set_option maxRecDepth 100000 in
set_option maxHeartbeats 1000000 in
theorem One_any (k : Int) (s : ByteArray) (w : World) (hs : s.size ≤ maxLen) :
    Calls Tryd.prog 12 #[.agg #[.int .i64 k, .string s]] w fun e w' => e = .returned (.agg #[.int .i64 k, .string (shortT s)]) ∧ Below w.heap.size w w' := by
  unfold maxLen at hs
  have hsh : shortT s = s.extract 0 (min s.size 20001) := rfl
  have hm : min (s.size : Int) 20001 = ((min s.size 20001 : Nat) : Int) := by omega
  have hle : min s.size 20001 ≤ s.size := Nat.min_le_left _ _
  generalize min s.size 20001 = m at hsh hm hle
  have Hsh := Lib.hid hsh
  have hm1 : (0 : Int) ≤ (m : Int) := by omega
  have hm2 : (m : Int) ≤ (s.size : Int) := by omega
  clear hsh
  go_enter Tryd.func12, Tryd.ntmps12
  go_wp2_with fail
  obtain ⟨w2, hw2⟩ : ∃ w2, w2 = (w.alloc (.cells #[.int .i64 k, .string s] 24)).alloc (.cells #[.int .i64 0, .string { data := #[] }] 24) := ⟨_, rfl⟩
  have hB : Below w.heap.size w w2 := by rw [hw2]; exact ((Below.refl _ _).alloc (Nat.le_refl _) _).alloc (by simp) _
  have h1 : w2.heap[w.heap.size]? = some (.cells #[.int .i64 k, .string s] 24 (0, 0)) := by
    rw [hw2]
    exact (Below.heap_alloc _ _ _ (by simp)).trans (heap_alloc_new w _)
  have h2 : w2.heap[w.heap.size + 1]? = some (.cells #[.int .i64 0, .string { data := #[] }] 24 (0, 0)) := by
    rw [hw2]
    have h := heap_alloc_new (w.alloc (.cells #[.int .i64 k, .string s] 24)) (.cells #[.int .i64 0, .string { data := #[] }] 24)
    rw [show (w.alloc (.cells #[.int .i64 k, .string s] 24)).heap.size = w.heap.size + 1 by simp] at h
    exact h
  rw [← hw2]
  have m0 : w2.cell? ⟨w.heap.size, 0, none⟩ = some (.int .i64 k) := Lib.cell_of_heap h1 0
  have m1 : w2.cell? ⟨w.heap.size, 1, none⟩ = some (.string s) := Lib.cell_of_heap h1 1
  have n0 : w2.cell? ⟨w.heap.size + 1, 0, none⟩ = some (.int .i64 0) := Lib.cell_of_heap h2 0
  have n1 : w2.cell? ⟨w.heap.size + 1, 1, none⟩ = some (.string { data := #[] }) := Lib.cell_of_heap h2 1
  have f0 : w2.frozen? ⟨w.heap.size + 1, 0, none⟩ = false := by simp [World.frozen?, h2]
  have f1 : w2.frozen? ⟨w.heap.size + 1, 1, none⟩ = false := by simp [World.frozen?, h2]
  have HB := Lib.hid hB
  have H2 := Lib.hid h2
  clear hw2 h1 h2 hB
  go_region
  all_goals
    go_wp2_with fail
    obtain ⟨w3, hw3⟩ : ∃ w3, w3 = ((w2.setCell ⟨w.heap.size + 1, 0, none⟩ (.int .i64 k)).setCell ⟨w.heap.size + 1, 1, none⟩ (.string (s.extract 0 m))).drew := ⟨_, rfl⟩
    rw [← hw3]
    have hB3 : Below w.heap.size w w3 := by
      rw [hw3]
      exact ((HB.out.setCell (p := ⟨w.heap.size + 1, 0, none⟩) (by simp) _).setCell (p := ⟨w.heap.size + 1, 1, none⟩) (by simp) _).drew
    have h3 : w3.heap[w.heap.size + 1]? = some (.cells #[.int .i64 k, .string (s.extract 0 m)] 24 (0, 0)) := by
      rw [hw3]
      change ((w2.setCell ⟨w.heap.size + 1, 0, none⟩ (.int .i64 k)).setCell ⟨w.heap.size + 1, 1, none⟩ (.string (s.extract 0 m))).heap[w.heap.size + 1]? = _
      unfold World.setCell
      simp only [Array.getElem?_modify, H2.out]
      simp
    have p0 : w3.cell? ⟨w.heap.size + 1, 0, none⟩ = some (.int .i64 k) := Lib.cell_of_heap h3 0
    have p1 : w3.cell? ⟨w.heap.size + 1, 1, none⟩ = some (.string (s.extract 0 m)) := Lib.cell_of_heap h3 1
    clear hw3 h3
    refine bodyPost_ret (by simp [results, Tryd.results12, go_sem, p0, p1]; try rfl) rfl ?_
    exact ⟨by rw [Hsh.out], hB3⟩
end Go.Proofs.YtkdnacniligjjaaDoor

namespace Go.Proofs.YtkdnacniligjjaaDoor
set_option linter.unusedVariables false
set_option linter.unusedSimpArgs false
open Go.ChangeShapes Go.WideShapes Go.RowKit Go.Deep

theorem cells3T : Tryd.prog.cellsOf 3 = 1 := by kernel_rfl
theorem cells9T : Tryd.prog.cellsOf 9 = 1 := by kernel_rfl
theorem build_listT {α : Type} {Q : Nat → α → Prop} : ∀ n : Nat, (∀ i, i < n → ∃ e, Q i e) → ∃ l : List α, l.length = n ∧ ∀ i e, l[i]? = some e → Q i e
  | 0, _ => ⟨[], rfl, fun i e h => by simp at h⟩
  | n + 1, h => by
    obtain ⟨l, hl, hq⟩ := build_listT n (fun i hi => h i (by omega))
    obtain ⟨e, he⟩ := h n (by omega)
    refine ⟨l ++ [e], by simp [hl], fun i x hx => ?_⟩
    rw [List.getElem?_append] at hx
    by_cases hi : i < l.length
    · rw [if_pos hi] at hx; exact hq i x hx
    · rw [if_neg hi] at hx
      have : i - l.length = 0 := by
        rcases Nat.eq_zero_or_pos (i - l.length) with h0 | h0
        · exact h0
        · rw [List.getElem?_eq_none (by simp; omega)] at hx; cases hx
      rw [this] at hx
      have hin : i = n := by omega
      simp at hx
      subst hx
      subst hin
      exact he
def tkC (p : Tok) : List Value := [.int .i64 p.1, .string p.2]

section
variable {H : Type} {enc : TypeId × Value → H} {w : World} {base : Nat} {spare : Nat → Bool} {held : Bool}

set_option maxRecDepth 100000 in
theorem tok_of {fuel : Nat} {cs : List Value} {x : DataW H × List MemPlace} (h : DataW.trod enc Tryd.prog w base spare held fuel 24 cs = some x) :
    ∃ p : Tok, cs = tkC p ∧ p.2.size ≤ maxLen := by
  obtain ⟨xs, n, _, _, hlen, hxs, hf⟩ := DataW.trod_struct Tryd.underlying24 h
  rw [cellsTok] at hlen
  match cs, hlen with
  | [c0, c1], _ =>
    have h0 := hf 0 { name := "Kind", type := 3, offset := 0, embedded := false, tag := "", pkgPath := "", byteOffset := 0 } rfl
    have h1 := hf 1 { name := "Text", type := 9, offset := 1, embedded := false, tag := "", pkgPath := "", byteOffset := 8 } rfl
    dsimp only at h0 h1
    rw [cells3T] at h0
    rw [cells9T] at h1
    have hx : ∀ i, i < xs.length → ∃ y, xs[i]? = some y := fun i hi => ⟨_, List.getElem?_eq_getElem hi⟩
    have h3 : xs.length = 2 := hxs
    obtain ⟨y0, e0⟩ := hx 0 (by omega)
    obtain ⟨y1, e1⟩ := hx 1 (by omega)
    rw [e0] at h0
    rw [e1] at h1
    obtain ⟨a, ha, _, wa⟩ := DataW.trod_int Tryd.underlying3 h0
    obtain ⟨s, hs, _, ws⟩ := DataW.trod_string Tryd.underlying9 h1
    simp at ha hs
    subst ha hs
    exact ⟨(a, s), rfl, ws⟩

set_option maxRecDepth 100000 in
theorem toks_of_arg {r : Reach} {b0 : Nat} {v : Value} {d : DataW H} {ps : List MemPlace} (hval : Value.okWide Tryd.prog w r b0 22 v) (h : DataW.Trod enc Tryd.prog w 0 (fun _ => true) true 22 v d ps) :
    ∃ (A : Option Addr) (c : Nat) (l : List Tok), v = .slice A l.length c ∧ TksV w A l ∧ l.length ≤ maxLen ∧ ∀ p ∈ l, p.2.size ≤ maxLen := by
  obtain ⟨a, len, cap, rfl⟩ := okWide_slice Tryd.underlying22 hval
  obtain ⟨fuel, hf⟩ := h
  rcases open_slice Tryd.underlying22 hf with ⟨hcs, _⟩ | ⟨a', len', cap', m, n, D, Pl, hcs, hb, hl, hm, hmm, _, hi⟩
  · simp [Value.cells] at hcs
    obtain ⟨rfl, rfl, rfl⟩ := hcs
    exact ⟨none, 0, [], rfl, TksV.nil _ _, by simp, fun e he => by simp at he⟩
  · simp [Value.cells] at hcs
    obtain ⟨rfl, rfl, rfl⟩ := hcs
    have hmc : m = cap := by simpa using hmm
    subst hmc
    obtain ⟨l, hll, hq⟩ := build_listT (Q := fun i e => w.cells? 0 (a'.add (i * 2)) 2 = some (tkC e) ∧ e.2.size ≤ maxLen) len (fun i hi' => by
      obtain ⟨cs', hc, ht⟩ := hi i (by omega)
      rw [cellsTok] at hc
      obtain ⟨e, rfl, hs⟩ := tok_of ht
      exact ⟨e, hc, hs⟩)
    subst hll
    refine ⟨some a', m, l, rfl, fun hpos => ?_, by omega, fun e he => ?_⟩
    · have h0 := (hq 0 _ (List.getElem?_eq_getElem hpos)).1
      obtain ⟨_, _, hc0⟩ := World.cells?_some h0
      have hc00 := hc0 0 (by omega)
      have hsp : a'.spot = none := by
        have hz : (a'.add (0 * 2)).add 0 = a' := by simp [Addr.add]
        rw [hz] at hc00
        simp only [World.cell?] at hc00
        split at hc00
        · split at hc00
          · simp [tkC] at hc00
          · rename_i hns; simpa using hns
        · simp [tkC] at hc00
      obtain ⟨b, off, sp⟩ := a'
      simp only at hsp
      subst hsp
      have hadd : ∀ i j : Nat, ((⟨b, off, none⟩ : Addr).add (i * 2)).add j = ⟨b, off + i * 2 + j, none⟩ := by
        intro i j
        unfold Addr.add
        by_cases h1 : i * 2 = 0 <;> by_cases h2 : j = 0 <;> simp [h1, h2]
      have hcell : ∀ i e, l[i]? = some e → ∀ j, j < 2 → w.cell? ⟨b, off + i * 2 + j, none⟩ = (tkC e)[j]? := by
        intro i e he j hj
        obtain ⟨_, _, hcc⟩ := World.cells?_some (hq i e he).1
        rw [← hadd]
        exact hcc j hj
      refine ⟨b, off, rfl, ?_, fun i e he => ⟨?_, ?_⟩⟩
      · have h1 := hcell 0 _ (List.getElem?_eq_getElem hpos) 0 (by omega)
        rcases Nat.lt_or_ge b w.heap.size with hlt | hge
        · exact hlt
        · simp [World.cell?, Array.getElem?_eq_none hge, tkC] at h1
      · have := hcell i e he 0 (by omega); simpa [tkC] using this
      · have := hcell i e he 1 (by omega); simpa [tkC] using this
    · obtain ⟨i, hi', rfl⟩ := List.getElem_of_mem he
      exact (hq i _ (List.getElem?_eq_getElem hi')).2
end
end Go.Proofs.YtkdnacniligjjaaDoor
