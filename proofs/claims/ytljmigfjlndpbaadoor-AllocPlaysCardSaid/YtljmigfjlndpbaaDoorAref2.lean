/- The reference's Free, Take. -/
import Derived.Test.YtljmigfjlndpbaaDoorAref
namespace Go.Proofs.YtljmigfjlndpbaaDoor
open Go.RowKit

def cnt (a : Av) (i : Nat) : Nat := (List.range i).countP (bitAt a.ws)
theorem cnt_succ (a : Av) (i : Nat) : cnt a (i + 1) = cnt a i + if bitAt a.ws i then 1 else 0 := by
  unfold cnt
  rw [List.range_succ, List.countP_append]
  simp [List.countP_cons]
theorem cnt_le (a : Av) (i : Nat) : cnt a i ≤ i := by
  have := List.countP_le_length (p := bitAt a.ws) (l := List.range i)
  rwa [List.length_range] at this
theorem cnt_more {a : Av} (h : ∀ j, a.n ≤ j → bitAt a.ws j = false) (d : Nat) : cnt a (a.n + d) = cnt a a.n := by
  induction d with
  | zero => rfl
  | succ d ih => rw [← Nat.add_assoc, cnt_succ, ih, h _ (by omega)]; rfl
theorem free_cnt {a : Av} {k : Nat} (h : a.Ok k) : a.free = cnt a a.n := by
  unfold Av.free
  rw [popAll_count]
  have := h.len
  have := h.room
  rw [show 64 * a.ws.length = a.n + (64 * a.ws.length - a.n) by omega]
  exact cnt_more h.out _
section
variable {w w' : World} {r b : Nat} {a : Av}
theorem rfree_any (h : Alr w r b a) : Calls Tryd.prog 20 #[.pointer (some ⟨r, 0, none⟩)] w fun e w' => e = .returned (.int .i64 ((a.free : Nat) : Int)) ∧ w = w' := by
  have c0 := h.c0
  have hs := h.small
  obtain ⟨k, hk⟩ := h.ok
  rw [free_cnt hk]
  have HC := Lib.hid (fun i (hi : i < a.n) => h.at_ hi)
  obtain ⟨n, hn⟩ : ∃ n, n = a.n := ⟨_, rfl⟩
  rw [← hn] at c0 HC hs ⊢
  clear h hk hn
  go_enter Tryd.func20, Tryd.ntmps20
  go_wp2_with (fail)
  go_loop [3, 4] (fun cr ir => ∃ i : Nat, i ≤ n ∧ ir = .int .i64 (i : Int) ∧ cr = .int .i64 ((cnt a i : Nat) : Int)) (fun _ ir => n - (intOf ir).toNat)
  case atStart => exact ⟨0, Nat.zero_le _, rfl, rfl⟩
  case round =>
    obtain ⟨i, hi, rfl, rfl⟩ := hrel
    by_cases hlt : i < n
    · have ci := HC.out i hlt
      have hc := cnt_succ a i
      have hl := cnt_le a i
      have HL := Lib.hid hl
      have hl2 : ((cnt a i : Nat) : Int) ≤ 110000 := by omega
      have HN := Lib.hid hc
      clear hc
      generalize cnt a i = c at *
      cases hb : bitAt a.ws i
      · rw [hb] at ci HN
        have HC2 := Lib.hid (show cnt a (i + 1) = c by rw [HN.out]; rfl)
        clear hl hb HN
        go_wp2
        go_round
        case rel => exact ⟨i + 1, by omega, by go_num, by rw [HC2.out]⟩
        case measure => simp [intOf]; omega
      · rw [hb] at ci HN
        have HC2 := Lib.hid (show cnt a (i + 1) = c + 1 by rw [HN.out]; rfl)
        clear hl hb HN
        go_wp2
        go_round
        case rel => exact ⟨i + 1, by omega, by go_num, by rw [HC2.out]; simp⟩
        case measure => simp [intOf]; omega
    · obtain rfl : i = n := by omega
      go_wp2
      go_ret
      exact ⟨rfl, rfl⟩
/-- What Take of the reference does. -/
def RTook (w : World) (r b : Nat) (a : Av) (e : Ending) (w' : World) : Prop := e = .returned (.tuple #[.int .i64 a.take.1.1, .int .i64 a.take.1.2]) ∧ Alr w' r b a.take.2 ∧ w.grownBy w' (some b)
theorem rtake_any (h : Alr w r b a) : Calls Tryd.prog 10 #[.pointer (some ⟨r, 0, none⟩)] w (RTook w r b a) := by
  have c0 := h.c0
  have hs := h.small
  obtain ⟨k, hk⟩ := h.ok
  have hf := first_is hk
  unfold RTook Av.take
  cases hj : a.first with
  | none =>
    rw [hj] at hf
    have HC := Lib.hid (fun i (hi : i < a.n) => (h.at_ hi).trans (by rw [show bitAt a.ws i = false from hf i]; rfl : _ = some (Value.bool true)))
    have HH := Lib.hid h
    obtain ⟨n, hn⟩ : ∃ n, n = a.n := ⟨_, rfl⟩
    rw [← hn] at c0 HC hs
    clear h hk hn hf hj
    dsimp only
    go_enter Tryd.func10, Tryd.ntmps10
    go_wp2_with (fail)
    go_loop [4] (fun ir => ∃ i : Nat, i ≤ n ∧ ir = .int .i64 (i : Int)) (fun ir => n - (intOf ir).toNat)
    case atStart => exact ⟨0, Nat.zero_le _, rfl⟩
    case round =>
      obtain ⟨i, hi, rfl⟩ := hrel
      by_cases hlt : i < n
      · have ci := HC.out i hlt
        go_wp2
        go_round
        case rel => exact ⟨i + 1, by omega, by go_num⟩
        case measure => simp [intOf]; omega
      · obtain rfl : i = n := by omega
        go_wp2
        go_ret2
        exact ⟨rfl, HH.out, grown_refl _ _⟩
  | some j =>
    rw [hj] at hf
    have hjn := first_lt hk hf
    have HC := Lib.hid (fun i (hi : i < j) => (h.at_ (show i < a.n by omega)).trans (by rw [hf.2 i hi]; rfl : _ = some (Value.bool true)))
    have cj := (h.at_ hjn).trans (by rw [hf.1]; rfl : _ = some (Value.bool false))
    have fz := h.fz j
    have HS := Lib.hid (h.set hjn)
    unfold Alr.Set at HS
    rw [hf.1] at HS
    obtain ⟨n, hn⟩ : ∃ n, n = a.n := ⟨_, rfl⟩
    rw [← hn] at c0 hs hjn
    have HJ := Lib.hid hjn
    clear h hk hn hf hj hjn
    dsimp only
    go_enter Tryd.func10, Tryd.ntmps10
    go_wp2_with (fail)
    go_loop [4] (fun ir => ∃ i : Nat, i ≤ j ∧ ir = .int .i64 (i : Int)) (fun ir => j - (intOf ir).toNat)
    case atStart => exact ⟨0, Nat.zero_le _, rfl⟩
    case round =>
      obtain ⟨i, hi, rfl⟩ := hrel
      have hin : i < n := by have := HJ.out; omega
      by_cases hlt : i < j
      · have ci := HC.out i hlt
        go_wp2
        go_round
        case rel => exact ⟨i + 1, by omega, by go_num⟩
        case measure => simp [intOf]; omega
      · obtain rfl : i = j := by omega
        go_wp2
        go_ret2
        exact ⟨rfl, HS.out.1, HS.out.2⟩
end
end Go.Proofs.YtljmigfjlndpbaaDoor
