/- What the arguments of a law are: words of 64 bits, bytes. -/
import Derived.Test.YtpdgcphflheeiaaRowkit
namespace Go.Proofs.Ytpdgcphflheeiaa
open Go.ChangeShapes Go.WideShapes Go.ChangeAt Go.RowKit
theorem wf_nat (k : IntKind) (z : Int) (h : (Lit.int k z).wf = true) (hk : k.min = 0) : 0 ≤ z ∧ z ≤ k.max := by
  simp only [Lit.wf, Bool.and_eq_true, decide_eq_true_eq] at h
  rw [hk] at h
  exact h
section
variable {H : Type} {enc : TypeId × Value → H} {P : Program} {W : World} {r : Reach} {b0 : Nat} {t : TypeId} {v : Value} {d : DataW H} {p : List MemPlace}
theorem dec_u64 (ht : P.underlying t = some (.int .u64)) (hok : Value.okWide P W r b0 t v) (h : DataW.Trod enc P W 0 (fun _ => true) true t v d p) : ∃ n : Nat, v = .int .u64 (n : Int) ∧ n < 18446744073709551616 := by
  obtain ⟨n, rfl, hw⟩ := dec_int ht hok h
  have := wf_nat .u64 n hw rfl
  have h2 : n ≤ 18446744073709551615 := this.2
  exact ⟨n.toNat, by simp only [Int.toNat_of_nonneg this.1], by omega⟩
theorem u8_of {n : Int} (hw : (Lit.int .u8 n).wf = true) : ∃ x : UInt8, n = (x.toNat : Int) := by
  have := wf_nat .u8 n hw rfl
  have h2 : n ≤ 255 := this.2
  refine ⟨UInt8.ofNat n.toNat, ?_⟩
  have e : (UInt8.ofNat n.toNat).toNat = n.toNat := UInt8.toNat_ofNat_of_lt' (by have := this.1; show n.toNat < 256; omega)
  rw [e, Int.toNat_of_nonneg this.1]
end
end Go.Proofs.Ytpdgcphflheeiaa
