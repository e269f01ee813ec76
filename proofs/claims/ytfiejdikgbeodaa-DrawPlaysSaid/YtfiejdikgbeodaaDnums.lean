/- The numbers that a Source yields, one by one. -/
import Derived.Test.YtfiejdikgbeodaaDrnum
import Derived.Test.YtfiejdikgbeodaaRange
namespace Go.Proofs.Ytfiejdikgbeodaa
open Go.RowKit
attribute [local go_sem] Oper.semAt_some

set_option maxHeartbeats 2000000 in
theorem nums1_in (n l b1 b2 b3 K : Nat) (cnt N : Int) (p : Option Addr) (J : Nat → World → Prop) (R : World → Prop) (hn : 2 ≤ n)
    (hK : K = (min cnt 65536).toNat)
    (hbox : ∀ k W, J k W → R W → W.cell? ⟨b1, 0, none⟩ = some (.int .i64 cnt) ∧ W.cell? ⟨b2, 0, none⟩ = some (.pointer p) ∧ W.cell? ⟨b3, 0, none⟩ = some (.int .i64 N))
    (hnum : ∀ k W, k < K → J k W → R W → Calls Try.prog 25 #[.pointer p, .int .i64 N] W fun e W' => ∃ x, e = .returned (.int .i64 x) ∧
      YieldAt Fence.wide (n - 1) Try.prog l #[.int .i64 x] W' fun e W'' => e = .returned (.bool true) ∧ J (k + 1) W'' ∧ R W'')
    (W : World) (h0 : J 0 W) (hR : R W) :
    CallsIn Fence.wide n Try.prog 79 (#[.func (.yield l) #[] #[]] ++ #[.pointer (some ⟨b1, 0, none⟩), .pointer (some ⟨b2, 0, none⟩), .pointer (some ⟨b3, 0, none⟩)]) W
      fun e W' => (∃ v, e = .returned v) ∧ J K W' ∧ R W' := by
  refine callsIn_of_wp Try.func79 rfl trivial ?_ rfl
  simp only [Try.ntmps79, List.size_toArray, List.length_cons, List.length_nil, Nat.reduceAdd, Nat.reduceSub, Array.replicate_succ, Array.replicate_zero, List.push_toArray, List.append_toArray, List.nil_append, List.cons_append]
  obtain ⟨c1, _, _⟩ := hbox 0 W h0 hR
  gi_wp2
  gi_loopw [7] (fun ir wr => ∃ k : Nat, k ≤ K ∧ ir = .int .i64 (k : Int) ∧ J k wr ∧ R wr) (fun ir _ => K - (intOf ir).toNat)
  case atStart => exact ⟨0, Nat.zero_le _, rfl, h0, hR⟩
  case round =>
    obtain ⟨k, hk, rfl, hJ, hR⟩ := hrel
    obtain ⟨c1, c2, c3⟩ := hbox k wr hJ hR
    by_cases hlt : k < K
    · have ht : decide ((k : Int) < min cnt 65536) = true := by simp only [decide_eq_true_eq]; omega
      have hk6 : k < 65536 := by omega
      have hN := hnum k wr hlt hJ hR
      clear hbox hnum hJ
      gi_wp2_with (first
        | (refine ⟨trivial, fun _ => by omega, ?_⟩; refine (callsIn_wide.2 hN).mono ?_; rintro e w1 ⟨x, rfl, fn, tmps, assign, body, hy, hRd⟩))
      refine ⟨fun _ => by omega, hRd.mono ?_⟩
      rintro e w2 ⟨rfl, hJ2, hR2⟩
      gi_wp2
      go_roundw
      case rel => exact ⟨k + 1, by omega, by go_num, hJ2, hR2⟩
      case measure => simp [intOf]; omega
    · have ht : decide ((k : Int) < min cnt 65536) = false := by simp only [decide_eq_false_iff_not]; omega
      have hkK : k = K := by omega
      subst hkK
      gi_wp2
      go_end0
      exact ⟨⟨_, rfl⟩, hJ, hR⟩

end Go.Proofs.Ytfiejdikgbeodaa
