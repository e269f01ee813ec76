/- Contracts of package alloc: first. -/
import Derived.Test.YtljmigfjlndpbaaDoorAeq
import Derived.Test.YtljmigfjlndpbaaDoorScope
namespace Go.Proofs.YtljmigfjlndpbaaDoor
open Go.RowKit

section
variable {w w' : World} {g R k : Nat} {a : Av}
theorem first_none (h : Alw w g R k a) (hf : FirstIs a.ws none) :
    Calls Tryd.prog 25 #[.pointer (some ⟨g, 0, none⟩)] w fun e w' => e = .returned (.tuple #[.int .i64 0, .bool false]) ∧ w = w' := by
  have c1 := h.c1
  have hlen := h.ok.len
  have hsm := h.ok.small
  have hrows := h.rows
  have hz : ∀ q, q < k → rowOf a.ws q = Z8 := fun q hq => row_zero (rowOf_len hlen hq) (rowOf_lt h.ok.lt q) (fun j hj => by rw [rowOf_bit _ _ _ hj]; exact hf _)
  have HR := Lib.hid hrows
  have HL := Lib.hid hlen
  have HZ := Lib.hid hz
  clear h hf hlen hrows hz
  go_enter Tryd.func25, Tryd.ntmps25
  go_wp2_with (fail)
  refine wp_scope_rounds 1 ?_
  go_wp2_with (fail)
  go_loop [4] (fun ir => ∃ i : Nat, i ≤ k ∧ ir = .int .i64 (i : Int)) (fun ir => k - (intOf ir).toNat)
  case atStart => exact ⟨0, Nat.zero_le _, rfl⟩
  case round =>
    obtain ⟨i, hi, rfl⟩ := hrel
    by_cases hlt : i < k
    · go_wp2_with (first
        | (refine wpL_row rfl (.tmp 19) rfl rfl HR.out HL.out hlt ?_)
        | (refine wpL_zero rfl rfl ?_)
        | (refine wpL_neq rfl (.tmp 20) (.tmp 21) _ rfl rfl rfl (rowOf_len HL.out hlt) (by rfl) false (by rw [HZ.out i hlt]; rfl) ?_)
        | fail)
      go_round
      case rel => exact ⟨i + 1, by omega, by go_num⟩
      case measure => simp [intOf]; omega
    · obtain rfl : i = k := by omega
      go_wp2
      go_ret2
      exact ⟨rfl, rfl⟩
theorem first_some (h : Alw w g R k a) (hT : Tab w) {j : Nat} (hf : FirstIs a.ws (some j)) :
    Calls Tryd.prog 25 #[.pointer (some ⟨g, 0, none⟩)] w fun e w' => e = .returned (.tuple #[.int .i64 (j : Int), .bool true]) ∧ Below w.heap.size w w' := by
  have c1 := h.c1
  have hlen := h.ok.len
  have hsm := h.ok.small
  have hrows := h.rows
  have hj := first_lt h.ok hf
  have hq : j / 512 < k := by have := h.ok.room; omega
  have hz : ∀ q, q < j / 512 → rowOf a.ws q = Z8 := fun q hq2 => row_zero (rowOf_len hlen (by omega)) (rowOf_lt h.ok.lt q) (fun i hi => by rw [rowOf_bit _ _ _ hi]; exact hf.2 _ (by omega))
  have hbit : bitAt (rowOf a.ws (j / 512)) (j % 512) = true := by
    rw [rowOf_bit _ _ _ (by omega), show 512 * (j / 512) + j % 512 = j by omega]
    exact hf.1
  have hne : (!decide (rowOf a.ws (j / 512) = Z8)) = true := by simpa using row_not_zero hbit
  have hrow := rowfirst_any (rowOf a.ws (j / 512)) (j % 512) w (rowOf_len hlen hq) (rowOf_lt h.ok.lt _) (by omega) ⟨hbit, fun i hi => by rw [rowOf_bit _ _ _ (by omega)]; exact hf.2 _ (by omega)⟩ hT
  have hfin : ((j / 512 : Nat) : Int) * 512 + ((j % 512 : Nat) : Int) = (j : Int) := by omega
  have hm : Unit → ((j % 512 : Nat) : Int) < 512 := fun _ => by omega
  have HR := Lib.hid hrows
  have HL := Lib.hid hlen
  have HZ := Lib.hid hz
  have HN := Lib.hid hne
  have HC := Lib.hid hrow
  have HF := Lib.hid hfin
  generalize j / 512 = q at *
  generalize j % 512 = m at *
  have HM := Lib.hid hm
  have HQ := Lib.hid hq
  clear h hf hlen hrows hz hne hbit hrow hfin hj hT hm hq
  go_enter Tryd.func25, Tryd.ntmps25
  go_wp2_with (fail)
  refine wp_scope_rounds 1 ?_
  go_wp2_with (fail)
  go_loop [4] (fun ir => ∃ i : Nat, i ≤ q ∧ ir = .int .i64 (i : Int)) (fun ir => q - (intOf ir).toNat)
  case atStart => exact ⟨0, Nat.zero_le _, rfl⟩
  case round =>
    obtain ⟨i, hi, rfl⟩ := hrel
    have hik : i < k := by have := HQ.out; omega
    by_cases hlt : i < q
    · have HLT := Lib.hid hlt
      have HI := Lib.hid hi
      clear hlt hi
      go_wp2_with (first
        | (refine wpL_row rfl (.tmp 19) rfl rfl HR.out HL.out hik ?_)
        | (refine wpL_zero rfl rfl ?_)
        | (refine wpL_neq rfl (.tmp 20) (.tmp 21) _ rfl rfl rfl (rowOf_len HL.out hik) (by rfl) false (by rw [HZ.out i HLT.out]; rfl) ?_)
        | fail)
      go_round
      case rel => exact ⟨i + 1, by have := HLT.out; omega, by go_num⟩
      case measure => have := HLT.out; simp [intOf]; omega
    · obtain rfl : i = q := by omega
      go_wp2_with (first
        | (refine wpL_row rfl (.tmp 19) rfl rfl HR.out HL.out hik ?_)
        | (refine wpL_zero rfl rfl ?_)
        | (refine wpL_neq rfl (.tmp 20) (.tmp 21) _ rfl rfl rfl (rowOf_len HL.out hik) (by rfl) true HN.out.symm ?_)
        | fail)
      go_step3
      try simp only [go_sem]
      refine ⟨_, rfl, ?_⟩
      go_wp2_with (first
        | (refine wpL_row rfl (.tmp 30) rfl rfl HR.out HL.out hik ?_)
        | (go_at_call 32; refine HC.out.mono ?_; rintro e w1 ⟨rfl, hb1⟩; have hm1 := HM.out ())
        | fail)
      rw [lands_ret]
      go_ret2
      exact ⟨by simp [HF.out], hb1⟩
end

end Go.Proofs.YtljmigfjlndpbaaDoor
