/- light of the law's; what stays beside a chain of the law's own. -/
import Derived.Test.YtlpckhjmbfeegaaCo
namespace Go.Proofs.Ytlpckhjmbfeegaa
open Go.RowKit
set_option maxRecDepth 20000
/-- What light lets through. -/
def Few (os : List O29) : Prop := os.length ≤ 40 ∧ ∀ o ∈ os, o.n ≤ 50
def LAns (w : World) (F : Prop) (e : Ending) (w' : World) : Prop := ∃ b, e = .returned (.bool b) ∧ (b = true → F) ∧ Below w.heap.size w w'
/-- A call's cells. -/
theorem op_cells {w w' : World} {A : Option Addr} {n c i : Nat} {os : List O29} {o : O29} (h : Slc O29.lay w A n c os) (hi : os[i]? = some o) (hb : Below w.heap.size w w') : ∃ b off, A = some ⟨b, off, none⟩ ∧ w'.cell? ⟨b, off + i * 4, none⟩ = some (.int .i64 o.kd) ∧ w'.cell? ⟨b, off + i * 4 + 1, none⟩ = some (.int .u64 (o.pv : Int)) ∧ w'.cell? ⟨b, off + i * 4 + 2, none⟩ = some (.int .u64 (o.tm : Int)) ∧ w'.cell? ⟨b, off + i * 4 + 3, none⟩ = some (.slice o.A o.n o.c) := by
  obtain ⟨b, off, rfl, hbb, hcc⟩ := h.at_ (by have := (List.getElem?_eq_some_iff.1 hi).1; have := h.len; omega)
  have hce := fun j u (hu : (O29.lay.cells o)[j]? = some u) => (hb.cell (p := ⟨b, off + (i * 4 + j), none⟩) hbb).trans (hcc i o hi j u hu)
  refine ⟨b, off, rfl, hce 0 _ rfl, ?_, ?_, ?_⟩
  · rw [Nat.add_assoc]; exact hce 1 _ rfl
  · rw [Nat.add_assoc]; exact hce 2 _ rfl
  · rw [Nat.add_assoc]; exact hce 3 _ rfl
set_option maxHeartbeats 1000000 in
theorem light29 {w : World} {A : Option Addr} {n c : Nat} {os : List O29} (h : Slc O29.lay w A n c os) : Calls Try.prog 9 #[.slice A n c] w (LAns w (Few os)) := by
  have HH := Lib.hid h
  have hcap := h.rd.2.1
  have hnc := h.rd.1
  have hnm : (n : Int) ≤ 9223372036854775807 := by unfold maxLen at hcap; omega
  have HN := Lib.hid h.len
  clear h hcap hnc
  go_enter Try.func9, Try.ntmps9
  go_wp2_with (fail)
  go_loopw [7] (fun ir wr => ∃ i : Nat, i ≤ n ∧ ir = .int .i64 (i : Int) ∧ Hid (∀ j o, j < i → os[j]? = some o → o.n ≤ 50) ∧ Hid (Below w.heap.size w wr)) (fun ir _ => n - (intOf ir).toNat)
  case atStart => exact ⟨0, Nat.zero_le _, rfl, Lib.hid (fun j v hj => absurd hj (Nat.not_lt_zero _)), Lib.hid (Below.refl _ _)⟩
  case round =>
    obtain ⟨i, hi, rfl, HA, HB⟩ := hrel
    by_cases hlt : i < n
    · obtain ⟨o, ho⟩ : ∃ o, os[i]? = some o := ⟨_, List.getElem?_eq_getElem (by have := HN.out; omega)⟩
      obtain ⟨b, off, rfl, k0, k1, k2, k3⟩ := op_cells HH.out ho HB.out
      have hm : o.n ≤ maxLen := by
        have := (HH.out.reads o (List.mem_of_getElem? ho)).2.2.1
        exact Nat.le_trans this.1 this.2.1
      have hmI : (o.n : Int) ≤ 9223372036854775807 := by unfold maxLen at hm; omega
      have HO := Lib.hid ho
      have hlti : (i : Int) < (n : Int) := by omega
      clear ho hm
      obtain ⟨kd, pv, tm, oA, on, oc, ol⟩ := o
      dsimp only at *
      by_cases h50 : 50 < on
      · have d1 : decide ((50 : Int) < (on : Int)) = true := by simp; omega
        have d2 : decide (50 < on) = true := by simpa using h50
        have d3 : (50 : Int) < (on : Int) := by omega
        go_wp2
        go_ret
        exact ⟨_, rfl, (fun h => by cases h), HB.out.alloc HB.out.size _⟩
      · have d1 : decide ((50 : Int) < (on : Int)) = false := by simp; omega
        have d2 : decide (50 < on) = false := by simpa using h50
        have d3 : ¬ (50 : Int) < (on : Int) := by omega
        have HLT := Lib.hid hlt
        go_wp2
        have hlt2 := HLT.out
        refine ⟨⟨i + 1, by omega, by go_num, Lib.hid ?_, Lib.hid (HB.out.alloc HB.out.size _)⟩, by simp [intOf]; omega⟩
        intro j x hj hx
        rcases Nat.lt_or_ge j i with h1 | h1
        · exact HA.out j x h1 hx
        · obtain rfl : j = i := by omega
          rw [HO.out] at hx
          cases hx
          exact Nat.le_of_not_lt h50
    · obtain rfl : i = n := by omega
      have d4 : decide ((i : Int) < (i : Int)) = false := by simp
      by_cases h40 : i ≤ 40
      · have d1 : decide ((i : Int) ≤ (40 : Int)) = true := by simp; omega
        have d2 : decide (i ≤ 40) = true := by simpa using h40
        have d3 : (i : Int) ≤ (40 : Int) := by omega
        go_wp2
        go_ret
        refine ⟨_, rfl, fun _ => ⟨by have := HN.out; omega, fun o ho => ?_⟩, HB.out⟩
        obtain ⟨j, hj⟩ := List.getElem?_of_mem ho
        exact HA.out j o (by have := (List.getElem?_eq_some_iff.1 hj).1; have := HN.out; omega) hj
      · have d1 : decide ((i : Int) ≤ (40 : Int)) = false := by simp; omega
        have d2 : decide (i ≤ 40) = false := by simpa using h40
        have d3 : ¬ (i : Int) ≤ (40 : Int) := by omega
        go_wp2
        go_ret
        exact ⟨_, rfl, (fun h => by cases h), HB.out⟩
end Go.Proofs.Ytlpckhjmbfeegaa
