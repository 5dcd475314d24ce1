/-
  Trees: a chain of nodes, and what Put makes of it in the sample (plain functions).
-/
import Derived.Test.YtpjlgahbbmlngaaDoorTreeOwnp3
import Derived.Test.YtpjlgahbbmlngaaDoorTreeDeepp1
import Derived.Test.YtpjlgahbbmlngaaDoorTreeLeavesp25
namespace Go.Proofs.YtpjlgahbbmlngaaDoor
set_option linter.unusedVariables false
set_option linter.unusedSimpArgs false
open Go Go.RowKit

def chainN : Nat → Nd
  | 0 => leafNd ⟨#[120]⟩
  | k + 1 => .mk 25 noTok [chainN k]
theorem chain_deep : ∀ k, deepN (chainN k) = k
  | 0 => rfl
  | k + 1 => by simp [chainN, deepN, deepL, chain_deep k]
theorem chain_count : ∀ k, countN (chainN k) = k + 1
  | 0 => rfl
  | k + 1 => by simp [chainN, countN, countL, chain_count k]; omega
theorem chain_leaves : ∀ k, leavesN (chainN k) = [firstT ⟨#[120]⟩]
  | 0 => rfl
  | k + 1 => by simp [chainN, leavesN, leavesL, chain_leaves k]
theorem chain_parts : ∀ k, partsN (chainN k) = true
  | 0 => by decide
  | k + 1 => by
    simp only [chainN, partsN, partsL, chain_parts k, Bool.and_true]
    rw [isPart_else (by decide)]
    rfl
theorem chain_kids (k : Nat) : (chainN k).kids.length ≤ 1 := by cases k <;> simp [chainN, leafNd, Nd.kids]
theorem chain_formed (k : Nat) : formedB (chainN k) = decide (k ≤ 1000) := by
  unfold formedB
  rw [chain_parts, chain_deep, chain_leaves]
  simp
def sampPut (y : Nd) : Nd := .mk 21 noTok [.mk 23 noTok [leafNd ⟨#[102]⟩], .mk 22 noTok [leafNd ⟨#[40]⟩, y, leafNd ⟨#[32]⟩, leafNd ⟨#[41]⟩]]
theorem samp_put (y : Nd) : putN sampleNd [1, 1] y = sampPut y := rfl
theorem samp_kids (y : Nd) : (sampPut y).kids.length = 2 := rfl
theorem samp_go : ∃ x b, goR sampleNd (intL [1, 1]) 0 = some (x, b) := ⟨_, _, rfl⟩
theorem samp_parts (y : Nd) : partsN (sampPut y) = partsN y := by
  have h1 : partsN (leafNd ⟨#[102]⟩) = true := by decide
  have h2 : partsN (leafNd ⟨#[40]⟩) = true := by decide
  have h3 : partsN (leafNd ⟨#[32]⟩) = true := by decide
  have h4 : partsN (leafNd ⟨#[41]⟩) = true := by decide
  have e1 : ∀ l, isPartN (.mk 21 noTok l) = true := fun l => by rw [isPart_else (by decide)]; rfl
  have e2 : ∀ l, isPartN (.mk 22 noTok l) = true := fun l => by rw [isPart_else (by decide)]; rfl
  have e3 : ∀ l, isPartN (.mk 23 noTok l) = true := fun l => by rw [isPart_else (by decide)]; rfl
  simp only [sampPut, partsN, partsL, e1, e2, e3, h1, h2, h3, h4, Bool.true_and, Bool.and_true]
theorem samp_deep (y : Nd) : deepN (sampPut y) = max 2 (deepN y + 2) := by
  simp only [sampPut, deepN, deepL, leafNd]
  omega
theorem samp_leaves (y : Nd) : (leavesN (sampPut y)).length = (leavesN y).length + 4 := by
  simp [sampPut, leavesN, leavesL, leafNd]
theorem samp_formed (k : Nat) : formedB (sampPut (chainN k)) = decide (k + 2 ≤ 1000) := by
  unfold formedB
  rw [samp_parts, samp_deep, samp_leaves, chain_parts, chain_deep, chain_leaves]
  by_cases h : k + 2 ≤ 1000
  · have h2 : max 2 (k + 2) ≤ 1000 := by omega
    simp [h, h2]
  · have h2 : ¬ max 2 (k + 2) ≤ 1000 := by omega
    simp [h, h2]
end Go.Proofs.YtpjlgahbbmlngaaDoor
