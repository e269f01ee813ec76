/- What a bag's All yields, one by one. -/
import Derived.Test.YtdddknncndjbcaaBagr
namespace Go.Proofs.Ytdddknncndjbcaa
open Go.RowKit
attribute [local go_sem] Oper.semAt_some

set_option maxHeartbeats 2000000 in
set_option maxRecDepth 8000 in
theorem iter_in (fr l p n c : Nat) (A : Option Addr) (xs : List Int) (J : Nat → World → Prop) (R Rx : World → Prop) (hfr : 2 ≤ fr) (hn : n ≤ 1000000)
    (hbox : ∀ k W, J k W → R W → W.cell? ⟨p, 0, none⟩ = some (.slice A n c) ∧ Rd W W.heap.size 1 A n c (is xs))
    (hY : ∀ k W, k < n → J k W → R W → YieldAt Fence.wide (fr - 1) Try.prog l #[.int .i64 (xs.getD k 0)] W fun e W' => (e = .returned (.bool true) ∧ J (k + 1) W' ∧ R W') ∨ (e = .returned (.bool false) ∧ Rx W'))
    (W : World) (h0 : J 0 W) (hR : R W) :
    CallsIn Fence.wide fr Try.prog 22 (#[.func (.yield l) #[] #[]] ++ #[.pointer (some ⟨p, 0, none⟩)]) W
      fun e W' => (∃ v, e = .returned v) ∧ ((J n W' ∧ R W') ∨ Rx W') := by
  refine callsIn_of_wp Try.func22 rfl trivial ?_ rfl
  simp only [Try.ntmps22, List.size_toArray, List.length_cons, List.length_nil, Nat.reduceAdd, Nat.reduceSub, Array.replicate_succ, Array.replicate_zero, List.push_toArray, List.append_toArray, List.nil_append, List.cons_append]
  obtain ⟨b0, hrd0⟩ := hbox 0 W h0 hR
  have hxl : xs.length = n := by have := hrd0.len; rwa [is_len] at this
  have HXL := Lib.hid hxl
  have HBX := Lib.hid hbox
  have HY := Lib.hid hY
  clear hrd0 hxl hbox hY
  gi_wp2
  clear b0
  gi_loopw [7] (fun ir wr => ∃ k : Nat, k ≤ n ∧ ir = .int .i64 ((k : Nat) : Int) ∧ J k wr ∧ R wr) (fun ir _ => n - (intOf ir).toNat)
  case atStart => exact ⟨0, Nat.zero_le _, rfl, h0, hR⟩
  case round =>
    obtain ⟨k, hk, rfl, hJ, hR⟩ := hrel
    by_cases hlt : k < n
    · obtain ⟨b, o, u, rfl, _, hu, hc⟩ := (HBX.out k wr hJ hR).2.at_ hlt
      rw [is_get (by rw [HXL.out]; exact hlt)] at hu
      obtain rfl := Option.some.inj hu
      have hk3 : (k : Int) ≤ 1000000 := by omega
      obtain ⟨fn, tmps, assign, body, hy, hRo⟩ := HY.out k wr hlt hJ hR
      generalize xs.getD k 0 = x at *
      have HRo := Lib.hid hRo
      clear hu hJ hR hRo
      gi_wp2
      refine ⟨fun _ => by omega, HRo.out.mono ?_⟩
      rintro e W3 (⟨rfl, hJ3, hR3⟩ | ⟨rfl, hx⟩)
      · gi_wp2
        go_roundw
        case rel => exact ⟨k + 1, by omega, by go_num, hJ3, hR3⟩
        case measure => simp [intOf]; omega
      · gi_wp2
        refine bodyPost_ret (results_none rfl _ _ _) rfl ?_
        exact ⟨⟨_, rfl⟩, .inr hx⟩
    · obtain rfl : k = n := by omega
      gi_wp2
      go_end0
      exact ⟨⟨_, rfl⟩, .inl ⟨hJ, hR⟩⟩
end Go.Proofs.Ytdddknncndjbcaa
