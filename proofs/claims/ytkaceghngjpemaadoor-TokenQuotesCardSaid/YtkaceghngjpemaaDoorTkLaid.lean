/-
  The variables that the rows list: from the rows' condition to the two tables in memory; a world that meets the condition.
-/
import Derived.Test.YtkaceghngjpemaaDoorTk3
import Derived.Test.YtkaceghngjpemaaDoorRows
import Derived.Lib.LaidU8T
import Derived.Lib.LaidIn
import Derived.PinnedBridge
import Derived.LaidHandle
import Derived.KernelRfl
namespace Go.Proofs.YtkaceghngjpemaaDoor
set_option linter.unusedVariables false
set_option linter.unusedSimpArgs false
open Go.Lib Go.Proofs

noncomputable abbrev laidList : List (String × DataW Unit) := [("math/bits.deBruijn32tab", Rows.laid_math_bits_deBruijn32tab), ("math/bits.deBruijn64tab", Rows.laid_math_bits_deBruijn64tab), ("internal/strconv.uint64pow10", Rows.laid_internal_strconv_uint64pow10), ("strconv.ErrRange", Rows.laid_strconv_ErrRange), ("strconv.ErrSyntax", Rows.laid_strconv_ErrSyntax), ("marginalia/token.words", Rows.laid_marginalia_token_words), ("marginalia/token.signs", Rows.laid_marginalia_token_signs)]
def strsData (l : List ByteArray) : DataW Unit := .agg (l.map fun s => .lit (.string s.data.toList))
theorem words_eq : (Rows.laid_marginalia_token_words : DataW Unit) = strsData wordsB := by rfl
theorem signs_eq : (Rows.laid_marginalia_token_signs : DataW Unit) = strsData signsB := by rfl

set_option maxRecDepth 100000 in
theorem strs_of_reads {name : String} {g n : Nat} {t : TypeId} {l : List ByteArray} (hn : Tryd.prog.globalNamed name = some g) (hy : (Tryd.prog.globals[g]?).map (·.type) = some t) (ht : Tryd.prog.underlying t = some (.array n 9)) (hc : Tryd.prog.cellsOf 9 = 1)
    {w : World} (h : VarReads Tryd.prog w name (strsData l)) (k : Nat) (hk : k < n) : w.cell? ⟨g, k, none⟩ = some (.string (l[k]?.getD ByteArray.empty)) := by
  obtain ⟨g', t', cs, fuel, p, hg, hty, hvar, hd⟩ := h
  obtain rfl := Option.some.inj (hn.symm.trans hg)
  obtain rfl := Option.some.inj (hy.symm.trans hty)
  obtain ⟨fuel', d, q, hdi, he⟩ := array_elem ht hd k hk
  rw [hc] at he
  obtain ⟨s, hs, hx, _⟩ := DataW.trod_string Tryd.underlying9 he
  have hd2 : d = .lit (.string s.data.toList) := congrArg Prod.fst hx
  simp only [List.getElem?_map, Option.map_eq_some_iff] at hdi
  obtain ⟨s', hs', hdd⟩ := hdi
  rw [hd2] at hdd
  injection hdd with hdd
  injection hdd with hdd
  have hss : s' = s := bytj hdd
  subst hss
  rw [World.var?_cell hg hvar k, ← Array.getElem?_toList]
  have e0 := congrArg (·[0]?) hs
  simp only [List.getElem?_take, List.getElem?_drop] at e0
  simpa [hs'] using e0

set_option maxRecDepth 100000 in
theorem tabs_of_laid {W : World} (h : laidMet Tryd.prog laidList W) : Tabs W := by
  have h5 := Lib.laidMet.reads h (n := "marginalia/token.words") (.tail _ (.tail _ (.tail _ (.tail _ (.tail _ (.head _))))))
  have h6 := Lib.laidMet.reads h (n := "marginalia/token.signs") (.tail _ (.tail _ (.tail _ (.tail _ (.tail _ (.tail _ (.head _)))))))
  rw [words_eq] at h5
  rw [signs_eq] at h6
  exact ⟨fun k hk => strs_of_reads (n := 12) (by kernel_rfl) (by kernel_rfl) Tryd.underlying83 (by kernel_rfl) h5 k hk, fun k hk => strs_of_reads (n := 22) (by kernel_rfl) (by kernel_rfl) Tryd.underlying84 (by kernel_rfl) h6 k hk⟩

def litV : DataW Unit → Value
  | .lit (.int k z) => .int k z
  | .lit (.string b) => .string ⟨b.toArray⟩
  | _ => .nilIface
def aggV : DataW Unit → Array Value
  | .agg ds => (ds.map litV).toArray
  | _ => #[]
abbrev synS : ByteArray := { data := #[105, 110, 118, 97, 108, 105, 100, 32, 115, 121, 110, 116, 97, 120] }
abbrev rngS : ByteArray := { data := #[118, 97, 108, 117, 101, 32, 111, 117, 116, 32, 111, 102, 32, 114, 97, 110, 103, 101] }
/-- so many blocks has the settled world -/
noncomputable def low : Nat := (World.holding Tryd.prog default ⟨#[], #[], []⟩).heap.size
/-- a world that meets the condition: the settled one, the variables laid -/
noncomputable def laidWorld (os : Os) : World :=
  let w0 := World.holding Tryd.prog os ⟨#[.cells #[.string rngS] 166, .cells #[.string synS] 166], #[], []⟩
  let put (h : Array Obj) (g : Nat) (cs : Array Value) : Array Obj := h.modify g fun
    | .cells _ t frozen => .cells cs t frozen
    | o => o
  let h1 := put w0.heap 0 (aggV Rows.laid_marginalia_token_words)
  let h2 := put h1 1 (aggV Rows.laid_marginalia_token_signs)
  let h3 := put h2 5 (aggV Rows.laid_internal_strconv_uint64pow10)
  let h4 := put h3 6 (aggV Rows.laid_math_bits_deBruijn32tab)
  let h5 := put h4 7 (aggV Rows.laid_math_bits_deBruijn64tab)
  let h6 := put h5 3 #[.iface 164 (.pointer (some ⟨low, 0, none⟩))]
  let h7 := put h6 2 #[.iface 164 (.pointer (some ⟨low + 1, 0, none⟩))]
  { w0 with heap := h7 }
set_option maxRecDepth 100000 in
theorem laidWorld_met (os : Os) (args : Array Value) : laidMet Tryd.prog laidList ((laidWorld os).forCall (fun _ _ => 0) ⟨#[], args, []⟩).memory :=
  (LaidIn.of_run [0, 1, 5, 6, 7, 3, 2, low, low + 1] 8 (by kernel_rfl) (by kernel_rfl) (by kernel_rfl) (by kernel_rfl)).met
end Go.Proofs.YtkaceghngjpemaaDoor
