/-
  Trees of pieces: their totals, and whether they are leaves.
-/
import Derived.Test.YtmdgclcakogggaaPc
namespace Go.Proofs.Ytmdgclcakogggaa
set_option linter.unusedVariables false
set_option linter.unusedSimpArgs false
open Go.RowKit

theorem sumsField0 (x0 x1 x2 x3 : Value) (w : World) : (Instr.field 66 (.agg #[x0, x1, x2, x3]) 0).run Try.prog w = .ok x0 w := by kernel_rfl
theorem sumsField1 (x0 x1 x2 x3 : Value) (w : World) : (Instr.field 66 (.agg #[x0, x1, x2, x3]) 1).run Try.prog w = .ok x1 w := by kernel_rfl
theorem sumsField2 (x0 x1 x2 x3 : Value) (w : World) : (Instr.field 66 (.agg #[x0, x1, x2, x3]) 2).run Try.prog w = .ok x2 w := by kernel_rfl
attribute [go_sem] sumsField0 sumsField1 sumsField2

theorem PcAt.totals {w : World} {B : Nat} {t : Pc} {v : Value} (h : PcAt w B v t) (hn : t ≠ .nil) :
    ∃ b, v = .pointer (some ⟨b, 0, none⟩) ∧ b < B ∧ b < w.heap.size ∧ w.cell? ⟨b, 3, none⟩ = some (.int .i64 (t.size : Int)) ∧ w.cell? ⟨b, 4, none⟩ = some (.int .i64 (t.feeds : Int)) ∧
      w.cell? ⟨b, 5, none⟩ = some (.int .i64 (t.leaves : Int)) ∧ w.cell? ⟨b, 6, none⟩ = some (.int .i64 (t.height : Int)) := by
  obtain ⟨b, s, vl, vr, rfl, hb, hh⟩ := h.open_ hn
  exact ⟨b, rfl, hb, lt_of hh, cell_of hh 3, cell_of hh 4, cell_of hh 5, cell_of hh 6⟩

theorem isLeaf_leaf (s : ByteArray) (v : Value) (w : World) (h : PcAt w w.heap.size v (.leaf s)) :
    Calls Try.prog 48 #[v] w fun e w' => e = .returned (.bool true) ∧ w = w' := by
  obtain ⟨b, rfl, hb, hh⟩ := h
  have c1 : w.cell? ⟨b, 1, none⟩ = some (.pointer none) := cell_of hh 1
  clear hh
  go_enter Try.func48, Try.ntmps48
  go_wp2
  go_ret
  exact ⟨rfl, rfl⟩
theorem isLeaf_node (l r : Pc) (v : Value) (w : World) (h : PcAt w w.heap.size v (.node l r)) :
    Calls Try.prog 48 #[v] w fun e w' => e = .returned (.bool false) ∧ w = w' := by
  obtain ⟨b, vl, vr, rfl, hb, hh, h1, h2, ho1, ho2⟩ := h
  obtain ⟨b1, s1, vl1, vr1, rfl, hb1, hh1⟩ := h1.open_ (by rintro rfl; exact ho1)
  have c1 : w.cell? ⟨b, 1, none⟩ = some (.pointer (some ⟨b1, 0, none⟩)) := cell_of hh 1
  clear hh hh1 h1 h2
  go_enter Try.func48, Try.ntmps48
  go_wp2
  go_ret
  exact ⟨rfl, rfl⟩
end Go.Proofs.Ytmdgclcakogggaa
