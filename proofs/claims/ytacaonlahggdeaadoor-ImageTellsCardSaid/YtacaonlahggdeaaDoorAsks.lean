/- What is asked of a client: closures, asks, Has, Old. -/
import Derived.Test.YtacaonlahggdeaaDoorTab
namespace Go.Proofs.YtacaonlahggdeaaDoor
open Go.RowKit

def Tok (T : List Cl) : Prop := T.length = 8 ∧ ∀ p ∈ T, Cl.ok p
def at8 (T : List Cl) (c : Nat) (f : Cl → Bool) : Bool := decide (1 ≤ c ∧ c ≤ 8) && f (T.getD (c - 1) (0, 0))
theorem Tok.get {T : List Cl} (h : Tok T) (i : Nat) : (T.getD i (0, 0)).ok := by
  rw [List.getD]
  cases hi : T[i]? with
  | none => exact ⟨by decide, by decide⟩
  | some p => exact h.2 p (List.mem_of_getElem? hi)
theorem Tok.at_ {T : List Cl} (h : Tok T) {c : Nat} (h8 : 1 ≤ c ∧ c ≤ 8) : T[c - 1]? = some (T.getD (c - 1) (0, 0)) := by
  have : c - 1 < T.length := by have := h.1; omega
  rw [List.getD, List.getElem?_eq_getElem this]; rfl
theorem at8_in {T : List Cl} {c : Nat} (h8 : 1 ≤ c ∧ c ≤ 8) (f : Cl → Bool) : at8 T c f = f (T.getD (c - 1) (0, 0)) := by simp [at8, h8]
theorem at8_out {T : List Cl} {c : Nat} (h8 : ¬ (1 ≤ c ∧ c ≤ 8)) (f : Cl → Bool) : at8 T c f = false := by simp [at8, h8]

end Go.Proofs.YtacaonlahggdeaaDoor
