/- Contracts of told, same, Count; how many are the same. -/
import Derived.Test.YtpdgcphflheeiaaQa
import Derived.Defers
import Derived.Recover
namespace Go.Proofs.Ytpdgcphflheeiaa
open Go.RowKit

theorem same8_idle (w : World) :
    CallsD Try.prog 32 #[] .returning w fun e u' w' => e = .returned (.tuple #[]) ∧ u' = .returning ∧ w' = w := by
  refine callsD_of_wpS Try.func32 rfl fun c₀ cs hu => ?_
  apply wpS_region
  simp [wpOpsS, go_sem, recoverD, hu, Try.ntmps32]
  cases c₀
  simp_all [bodyPostS, results, Try.results32]
theorem samei_idle (w : World) :
    CallsD Try.prog 33 #[] .returning w fun e u' w' => e = .returned (.tuple #[]) ∧ u' = .returning ∧ w' = w := by
  refine callsD_of_wpS Try.func33 rfl fun c₀ cs hu => ?_
  apply wpS_region
  simp [wpOpsS, go_sem, recoverD, hu, Try.ntmps33]
  cases c₀
  simp_all [bodyPostS, results, Try.results33]
theorem told_idle (w : World) :
    CallsD Try.prog 29 #[] .returning w fun e u' w' => e = .returned (.tuple #[]) ∧ u' = .returning ∧ w' = w := by
  refine callsD_of_wpS Try.func29 rfl fun c₀ cs hu => ?_
  apply wpS_region
  simp [wpOpsS, go_sem, recoverD, hu, Try.ntmps29]
  cases c₀
  simp_all [bodyPostS, results, Try.results29]

theorem same8_any (x y : Int) (w : World) :
    Calls Try.prog 27 #[.int .u8 x, .int .u8 y] w fun e w' => e = .returned (.bool (x == y)) ∧ w = w' := by
  go_enter_defers Try.func27, Try.ntmps27
  go_wp2_with fail
  refine leaves_cons (f := 32) (args := #[]) (by simp) (by simp [go_sem]) ?_
  refine (same8_idle _).mono ?_
  rintro e u' w'' ⟨rfl, rfl, rfl⟩
  simp [Leaves, settle, results, Try.results27, go_sem]
theorem samei_any (x y : Int) (w : World) :
    Calls Try.prog 28 #[.int .i64 x, .int .i64 y] w fun e w' => e = .returned (.bool (x == y)) ∧ w = w' := by
  go_enter_defers Try.func28, Try.ntmps28
  go_wp2_with fail
  refine leaves_cons (f := 33) (args := #[]) (by simp) (by simp [go_sem]) ?_
  refine (samei_idle _).mono ?_
  rintro e u' w'' ⟨rfl, rfl, rfl⟩
  simp [Leaves, settle, results, Try.results28, go_sem]

def cnti (l : List Int) (x : Int) : Nat := l.countP fun y => y == x
theorem cnti_snoc (l : List Int) (y x : Int) : cnti (l ++ [y]) x = cnti l x + if (y == x) = true then 1 else 0 := by
  unfold cnti; rw [List.countP_append, List.countP_singleton]
theorem cnt_snoc (l : List UInt8) (y : UInt8) (x : Nat) : cnt (l ++ [y]) x = cnt l x + if (y.toNat == x) = true then 1 else 0 := by
  unfold cnt; rw [List.countP_append, List.countP_singleton]
theorem cnt_le (l : List UInt8) (x : Nat) : cnt l x ≤ l.length := List.countP_le_length
theorem cnti_le (l : List Int) (x : Int) : cnti l x ≤ l.length := List.countP_le_length
theorem counti_any {w : World} {A : Option Addr} {n c : Nat} {l : List Int} (x : Int) (h : Rd w w.heap.size 1 A n c (is l)) (hn : n ≤ 1000000) :
    Calls Try.prog 22 #[.slice A n c, .int .i64 x] w fun e w' => e = .returned (.int .i64 ((cnti l x : Nat) : Int)) ∧ w = w' := by
  have hl : l.length = n := by have := h.len; rwa [is_len] at this
  have H1 := Lib.hid (fun i (hi : i < n) => h.at_ hi)
  have HL := Lib.hid hl
  have hN := fun W y => samei_any y x W
  clear h hl
  go_enter Try.func22, Try.ntmps22
  go_wp2_with (fail)
  go_loop [5, 10] (fun sr ir => ∃ i : Nat, i ≤ n ∧ ir = .int .i64 (i : Int) ∧ sr = .int .i64 ((cnti (l.take i) x : Nat) : Int)) (fun _ ir => n - (intOf ir).toNat)
  case atStart => exact ⟨0, Nat.zero_le _, rfl, rfl⟩
  case round =>
    obtain ⟨i, hi, rfl, rfl⟩ := hrel
    by_cases hlt : i < n
    · obtain ⟨p1, o1, v1, rfl, hp1, hv1, hc1⟩ := H1.out i hlt
      obtain ⟨y, hy, rfl⟩ : ∃ y, l[i]? = some y ∧ v1 = .int .i64 y := by
        unfold is at hv1
        rw [List.getElem?_map] at hv1
        cases hx : l[i]? with
        | none => rw [hx] at hv1; cases hv1
        | some x => rw [hx] at hv1; exact ⟨x, rfl, (Option.some.inj hv1).symm⟩
      have hst : cnti (l.take (i + 1)) x = cnti (l.take i) x + if (y == x) = true then 1 else 0 := by
        obtain ⟨hil, rfl⟩ := List.getElem?_eq_some_iff.1 hy
        rw [List.take_succ_eq_append_getElem hil, cnti_snoc]
      have hle : cnti (l.take i) x ≤ 1000000 := by have := cnti_le (l.take i) x; rw [List.length_take] at this; omega
      have HST := Lib.hid hst
      have hN := fun W => hN W y
      clear hv1 hp1 hy hst
      generalize cnti (l.take i) x = q at *
      cases hb : (y == x)
      · rw [hb] at hN HST
        clear hb
        go_wp2_with (go_at_call 28; (with_reducible refine (hN _).mono ?_); rintro e w3 ⟨rfl, rfl⟩)
        go_round
        case rel => exact ⟨i + 1, by omega, by go_num, by rw [HST.out]; rfl⟩
        case measure => simp [intOf]; omega
      · rw [hb] at hN HST
        clear hb
        go_wp2_with (go_at_call 28; (with_reducible refine (hN _).mono ?_); rintro e w3 ⟨rfl, rfl⟩)
        go_round
        case rel => exact ⟨i + 1, by omega, by go_num, by rw [HST.out]; simp⟩
        case measure => simp [intOf]; omega
    · obtain rfl : i = n := by omega
      go_wp2
      go_ret
      exact ⟨by rw [List.take_of_length_le (by rw [HL.out]; exact Nat.le_refl _)]; rfl, rfl⟩
theorem count8_any {w : World} {A : Option Addr} {n c : Nat} {l : List UInt8} (x : Nat) (h : Rd w w.heap.size 1 A n c (u8s l)) (hn : n ≤ 1000000) :
    Calls Try.prog 20 #[.slice A n c, .int .u8 (x : Int)] w fun e w' => e = .returned (.int .i64 ((cnt l x : Nat) : Int)) ∧ w = w' := by
  have hl : l.length = n := by have := h.len; rwa [u8s_len] at this
  have H1 := Lib.hid (fun i (hi : i < n) => h.at_ hi)
  have HL := Lib.hid hl
  have hN := fun W y => same8_any y (x : Int) W
  clear h hl
  go_enter Try.func20, Try.ntmps20
  go_wp2_with (fail)
  go_loop [5, 10] (fun sr ir => ∃ i : Nat, i ≤ n ∧ ir = .int .i64 (i : Int) ∧ sr = .int .i64 ((cnt (l.take i) x : Nat) : Int)) (fun _ ir => n - (intOf ir).toNat)
  case atStart => exact ⟨0, Nat.zero_le _, rfl, rfl⟩
  case round =>
    obtain ⟨i, hi, rfl, rfl⟩ := hrel
    by_cases hlt : i < n
    · obtain ⟨p1, o1, v1, rfl, hp1, hv1, hc1⟩ := H1.out i hlt
      obtain ⟨y, hy, rfl⟩ := u8s_get l i v1 hv1
      have hst : cnt (l.take (i + 1)) x = cnt (l.take i) x + if (y.toNat == x) = true then 1 else 0 := by
        obtain ⟨hil, rfl⟩ := List.getElem?_eq_some_iff.1 hy
        rw [List.take_succ_eq_append_getElem hil, cnt_snoc]
      have hle : cnt (l.take i) x ≤ 1000000 := by have := cnt_le (l.take i) x; rw [List.length_take] at this; omega
      have HST := Lib.hid hst
      have hN := fun W => hN W (y.toNat : Int)
      rw [show ((y.toNat : Int) == (x : Int)) = (y.toNat == x) by rw [Bool.eq_iff_iff]; simp; omega] at hN
      clear hv1 hp1 hy hst
      generalize cnt (l.take i) x = q at *
      cases hb : (y.toNat == x)
      · rw [hb] at hN HST
        clear hb
        go_wp2_with (go_at_call 27; (with_reducible refine (hN _).mono ?_); rintro e w3 ⟨rfl, rfl⟩)
        go_round
        case rel => exact ⟨i + 1, by omega, by go_num, by rw [HST.out]; rfl⟩
        case measure => simp [intOf]; omega
      · rw [hb] at hN HST
        clear hb
        go_wp2_with (go_at_call 27; (with_reducible refine (hN _).mono ?_); rintro e w3 ⟨rfl, rfl⟩)
        go_round
        case rel => exact ⟨i + 1, by omega, by go_num, by rw [HST.out]; simp⟩
        case measure => simp [intOf]; omega
    · obtain rfl : i = n := by omega
      go_wp2
      go_ret
      exact ⟨by rw [List.take_of_length_le (by rw [HL.out]; exact Nat.le_refl _)]; rfl, rfl⟩
end Go.Proofs.Ytpdgcphflheeiaa
