/- A number of 64 bits that comes in, read as one of the naturals. -/
import Derived.Test.YtapfggpeodpflaaRowkitbM
namespace Go.Proofs.Ytapfggpeodpflaa
open Go.ChangeShapes Go.WideShapes Go.ChangeAt Go.RowKit

theorem wf_nat (k : IntKind) (z : Int) (h : (Lit.int k z).wf = true) (hk : k.min = 0) : 0 ≤ z ∧ z ≤ k.max := by
  simp only [Lit.wf, Bool.and_eq_true, decide_eq_true_eq] at h
  rw [hk] at h
  exact h
section
variable {H : Type} {enc : TypeId × Value → H} {P : Program} {W : World} {r : Reach} {b0 : Nat} {ty : TypeId} {v : Value} {d : DataW H} {p : List MemPlace}
theorem dec_u64 (ht : P.underlying ty = some (.int .u64)) (hok : Value.okWide P W r b0 ty v) (h : DataW.Trod enc P W 0 (fun _ => true) true ty v d p) : ∃ n : Nat, v = .int .u64 (n : Int) ∧ n < 18446744073709551616 := by
  obtain ⟨n, rfl, hw⟩ := dec_int ht hok h
  have h1 := wf_nat .u64 n hw rfl
  have h2 : n ≤ 18446744073709551615 := h1.2
  exact ⟨n.toNat, by simp only [Int.toNat_of_nonneg h1.1], by omega⟩
end
end Go.Proofs.Ytapfggpeodpflaa
