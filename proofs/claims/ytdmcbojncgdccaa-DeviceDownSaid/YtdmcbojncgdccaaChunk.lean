/- slices.Chunk's iterator, of bytes of any length. -/
import Derived.Test.YtdmcbojncgdccaaRange
import Derived.Sort.QuietIn
namespace Go.Proofs.Ytdmcbojncgdccaa
open Go.RowKit
attribute [local go_sem] Oper.semAt_some

/-- The chunk number k. -/
def chunkw (b o n k : Nat) : Value := .slice (some ⟨b, o + 64 * k, none⟩) (min 64 (n - 64 * k)) (min 64 (n - 64 * k))

set_option maxHeartbeats 2000000 in
set_option maxRecDepth 8000 in
theorem chunk2_in (fr l b1 b2 b o n c : Nat) (A : Option Addr) (hA : 0 < n → A = some ⟨b, o, none⟩) (J : Nat → World → Prop) (R Rx : World → Prop) (hfr : 2 ≤ fr) (hnc : n ≤ c) (hn : n ≤ 1000000)
    (hbox : ∀ k W, J k W → R W → W.cell? ⟨b1, 0, none⟩ = some (.slice A n c) ∧ W.cell? ⟨b2, 0, none⟩ = some (.int .i64 64))
    (hdrew : ∀ k W d, J k W → R W → J k (W.drewN d) ∧ R (W.drewN d))
    (hY : ∀ k W, 64 * k < n → J k W → R W → YieldAt Fence.wide (fr - 1) Try.prog l #[chunkw b o n k] W fun e W' => (e = .returned (.bool true) ∧ J (k + 1) W' ∧ R W') ∨ (e = .returned (.bool false) ∧ Rx W'))
    (W : World) (h0 : J 0 W) (hR : R W) :
    CallsIn Fence.wide fr Try.prog 47 (#[.func (.yield l) #[] #[]] ++ #[.pointer (some ⟨b1, 0, none⟩), .pointer (some ⟨b2, 0, none⟩)]) W
      fun e W' => (∃ v, e = .returned v) ∧ ((J ((n + 63) / 64) W' ∧ R W') ∨ Rx W') := by
  refine callsIn_of_wp Try.func47 rfl trivial ?_ rfl
  simp only [Try.ntmps47, List.size_toArray, List.length_cons, List.length_nil, Nat.reduceAdd, Nat.reduceSub, Array.replicate_succ, Array.replicate_zero, List.push_toArray, List.append_toArray, List.nil_append, List.cons_append]
  gi_wp2
  gi_loopw [4] (fun ir wr => ∃ k : Nat, k ≤ (n + 63) / 64 ∧ ir = .int .i64 ((64 * k : Nat) : Int) ∧ J k wr ∧ R wr) (fun ir _ => (n + 63) / 64 - (intOf ir).toNat / 64)
  case atStart => exact ⟨0, Nat.zero_le _, rfl, h0, hR⟩
  case round =>
    obtain ⟨k, hk, rfl, hJ, hR⟩ := hrel
    obtain ⟨c1, c2⟩ := hbox k wr hJ hR
    obtain ⟨i, hi⟩ : ∃ i, i = 64 * k := ⟨_, rfl⟩
    rw [← hi]
    by_cases hlt : i < n
    · obtain rfl := hA (by omega)
      obtain ⟨m, hm⟩ : ∃ m, m = min 64 (n - i) := ⟨_, rfl⟩
      have hm1 : 1 ≤ m := by omega
      have hm2 : i + m ≤ n := by omega
      have hmi : min (64 : Int) ((n : Int) - (i : Int)) = (m : Int) := by omega
      have hmj : (if (n : Int) - (i : Int) < 64 then (n : Int) - (i : Int) else 64) = (m : Int) := by split <;> omega
      have hmn : min (64 : Int) (((n - i : Nat) : Int)) = (m : Int) := by omega
      have HD := Lib.hid (fun d => hdrew k wr d hJ hR)
      have HY := Lib.hid hY
      have HBX := Lib.hid hbox
      have hin : (i : Int) < (n : Int) := by omega
      have hi6 : i ≤ 1000000 := by omega
      have HK := Lib.hid hk
      have HI := Lib.hid hi
      have HM := Lib.hid hm
      clear hbox hdrew hY hJ hR hk hi hm
      gi_wp2
      gi_quiet (fail)
      have hmk : (if ((n - i : Nat) : Int) < 64 then ((n - i : Nat) : Int) else 64) = (m : Int) := by split <;> omega
      rw [hmk]
      clear hmk hmi hmj hmn
      obtain ⟨hJd, hRd⟩ := HD.out nq
      obtain ⟨fn, tmps, assign, body, hy, hRo⟩ := HY.out k _ (by have := HI.out; omega) hJd hRd
      have ec : chunkw b o n k = .slice (some ⟨b, o + i, none⟩) m m := by unfold chunkw; rw [← HI.out, ← HM.out]
      rw [ec] at hy
      have c1' : (wr.drewN nq).cell? ⟨b1, 0, none⟩ = some (.slice (some ⟨b, o, none⟩) n c) := c1
      have hs1 : ((i : Int) + (m : Int)).toNat - i = m := by omega
      gi_wp2
      refine ⟨fun _ => by omega, hRo.mono ?_⟩
      rintro e W3 (⟨rfl, hJ3, hR3⟩ | ⟨rfl, hx⟩)
      · obtain ⟨_, c2'⟩ := HBX.out (k + 1) W3 hJ3 hR3
        have HI2 : Hid (i + 64 = 64 * (k + 1)) := Lib.hid (by have := HI.out; omega)
        gi_wp2
        go_roundw
        case rel => exact ⟨k + 1, by have := HI.out; omega, by rw [← HI2.out]; rfl, hJ3, hR3⟩
        case measure => simp [intOf]; have := HI.out; omega
      · gi_wp2
        refine bodyPost_ret (results_none rfl _ _ _) rfl ?_
        exact ⟨⟨_, rfl⟩, .inr hx⟩
    · have hkn : k = (n + 63) / 64 := by omega
      have hin : decide ((i : Int) < (n : Int)) = false := by simp; omega
      have HKN := Lib.hid hkn
      clear hbox hdrew hY hk hkn hi
      gi_wp2
      go_end0
      rw [← HKN.out]
      exact ⟨⟨_, rfl⟩, .inl ⟨hJ, hR⟩⟩

end Go.Proofs.Ytdmcbojncgdccaa
