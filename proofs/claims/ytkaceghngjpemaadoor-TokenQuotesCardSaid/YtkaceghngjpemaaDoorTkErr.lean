/-
  The sentinel of strconv, out of the rows' condition.
-/
import Derived.Test.YtkaceghngjpemaaDoorTkNum
namespace Go.Proofs.YtkaceghngjpemaaDoor
set_option linter.unusedVariables false
set_option linter.unusedSimpArgs false
open Go.Lib Go.Proofs

set_option maxRecDepth 100000 in
theorem errV_of_laid {W : World} (h : laidMet Tryd.prog laidList W) : ErrV W := by
  have h4 := Lib.laidMet.reads h (n := "strconv.ErrRange") (.tail _ (.tail _ (.tail _ (.head _))))
  obtain ⟨g', t', cs, fuel, p, hg, hty, hvar, hd⟩ := h4
  obtain rfl := Option.some.inj ((show Tryd.prog.globalNamed "strconv.ErrRange" = some 3 by kernel_rfl).symm.trans hg)
  obtain rfl := Option.some.inj ((show (Tryd.prog.globals[3]?).map (·.type) = some 92 by kernel_rfl).symm.trans hty)
  have hcs : cs.toList = [.nilIface] ∨ ∃ u v, cs.toList = [.iface u v] := by
    cases fuel with
    | zero => simp [DataW.trod] at hd
    | succ n =>
      unfold DataW.trod at hd
      rw [Tryd.underlying92] at hd
      split at hd <;> simp_all
  have hc := World.var?_cell hg hvar 0
  rw [← Array.getElem?_toList] at hc
  rcases hcs with hcs | ⟨u, v, hcs⟩
  · rw [hcs] at hc
    exact ⟨_, by simpa using hc, .inl rfl⟩
  · rw [hcs] at hc
    exact ⟨_, by simpa using hc, .inr ⟨u, v, rfl⟩⟩
end Go.Proofs.YtkaceghngjpemaaDoor
