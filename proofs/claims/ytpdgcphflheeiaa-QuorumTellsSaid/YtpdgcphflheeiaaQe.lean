/- The reference's Majority; the same numbers. -/
import Derived.Test.YtpdgcphflheeiaaQd
namespace Go.Proofs.Ytpdgcphflheeiaa
open Go.RowKit
set_option maxRecDepth 20000

def cin (a : Nat) (l : List Int) : Nat := l.countP (inB a)
theorem cin_snoc (a : Nat) (l : List Int) (x : Int) : cin a (l ++ [x]) = cin a l + if inB a x = true then 1 else 0 := by
  unfold cin; rw [List.countP_append, List.countP_singleton]
theorem cin_le (a : Nat) (l : List Int) : cin a l ≤ l.length := List.countP_le_length
theorem cin_all (a b : Nat) : cin a (mem_ b 64) = (memb b).countP a.testBit := by
  rw [mem_64]
  unfold cin
  rw [List.countP_map]
  apply List.countP_congr
  intro i hi
  have := memb_lt hi
  simp only [Function.comp]
  rw [inB_nat a i this]
theorem mem_len64 (b : Nat) : (mem_ b 64).length = pop 64 b := by rw [mem_64, List.length_map, memb_len]
theorem rmaj_any (a b : Nat) (w : World) (ha : a < 18446744073709551616) (hb : b < 18446744073709551616) :
    Calls Try.prog 16 #[.int .u64 (a : Int), .int .u64 (b : Int)] w fun e w' => e = .returned (.bool (majB a b)) ∧ Below w.heap.size w w' := by
  have hA := fun W n => rhas_any a n W ha
  have HM := Lib.hid (rmembers_any b w hb)
  have HR := Lib.hid (show decide ((mem_ b 64).length < 2 * cin a (mem_ b 64)) = majB a b by rw [cin_all, ← ref_maj, mem_64, List.length_map])
  have hl64 : (mem_ b 64).length ≤ 64 := mem_len b 64
  clear ha hb
  generalize mem_ b 64 = l at *
  generalize majB a b = m at *
  go_enter Try.func16, Try.ntmps16
  go_wp2_with (go_at_call 10; refine HM.out.mono ?_; clear HM; rintro e w1 ⟨A, c, rfl, hown, hbel⟩)
  have H1 := Lib.hid (fun i (hi : i < l.length) => (ownsRow_rd hown).at_ hi)
  have HB := Lib.hid hbel
  obtain ⟨n, hn⟩ : ∃ n, n = l.length := ⟨_, rfl⟩
  rw [← hn] at H1 hl64 ⊢
  have HN := Lib.hid hn
  clear hown hbel hn
  go_loop [5, 7] (fun sr ir => ∃ i : Nat, i ≤ n ∧ ir = .int .i64 (i : Int) ∧ sr = .int .i64 ((cin a (l.take i) : Nat) : Int)) (fun _ ir => n - (intOf ir).toNat)
  case atStart => exact ⟨0, Nat.zero_le _, rfl, rfl⟩
  case round =>
    obtain ⟨i, hi, rfl, rfl⟩ := hrel
    have hle : cin a (l.take i) ≤ 64 := by have := cin_le a (l.take i); rw [List.length_take] at this; omega
    by_cases hlt : i < n
    · obtain ⟨p1, o1, v1, rfl, hp1, hv1, hc1⟩ := H1.out i hlt
      obtain ⟨y, hy, rfl⟩ : ∃ y, l[i]? = some y ∧ v1 = .int .i64 y := by
        unfold is at hv1
        rw [List.getElem?_map] at hv1
        cases hx : l[i]? with
        | none => rw [hx] at hv1; cases hv1
        | some x => rw [hx] at hv1; exact ⟨x, rfl, (Option.some.inj hv1).symm⟩
      have hst : cin a (l.take (i + 1)) = cin a (l.take i) + if inB a y = true then 1 else 0 := by
        obtain ⟨hil, rfl⟩ := List.getElem?_eq_some_iff.1 hy
        rw [List.take_succ_eq_append_getElem hil, cin_snoc]
      have HST := Lib.hid hst
      have hA := fun W => hA W y
      have d1 : decide (i < n) = true := by simpa using hlt
      clear hv1 hp1 hy hst
      generalize cin a (l.take i) = q at *
      cases hb : inB a y
      · rw [hb] at hA HST
        clear hb
        go_wp2_with (go_at_call 9; (with_reducible refine (hA _).mono ?_); rintro e w3 ⟨rfl, rfl⟩)
        go_round
        case rel => exact ⟨i + 1, by omega, by go_num, by rw [HST.out]; rfl⟩
        case measure => simp [intOf]; omega
      · rw [hb] at hA HST
        clear hb
        go_wp2_with (go_at_call 9; (with_reducible refine (hA _).mono ?_); rintro e w3 ⟨rfl, rfl⟩)
        go_round
        case rel => exact ⟨i + 1, by omega, by go_num, by rw [HST.out]; simp⟩
        case measure => simp [intOf]; omega
    · obtain rfl : i = n := by omega
      have hT : l.take i = l := List.take_of_length_le (by have := HN.out; omega)
      rw [hT] at hle ⊢
      have HR2 := Lib.hid (show decide (i < 2 * cin a l) = m by rw [HN.out]; exact HR.out)
      clear HR hT hlt
      generalize cin a l = q at *
      have d1 : decide (i < i) = false := by simp
      by_cases hq : i < 2 * q
      · have d2 : decide (i < 2 * q) = true := by simpa using hq
        go_wp2
        go_ret
        exact ⟨ret_bool (by rw [← HR2.out, d2]; simp; omega), HB.out⟩
      · have d2 : decide (i < 2 * q) = false := by simpa using hq
        go_wp2
        go_ret
        exact ⟨ret_bool (by rw [← HR2.out, d2]; simp; omega), HB.out⟩
theorem ints_any {w : World} {A A2 : Option Addr} {n c c2 : Nat} {l : List Int} (h1 : Rd w w.heap.size 1 A n c (is l)) (h2 : Rd w w.heap.size 1 A2 n c2 (is l)) (hn : n ≤ 110000) :
    Calls Try.prog 12 #[.slice A n c, .slice A2 n c2] w fun e w' => e = .returned (.bool true) ∧ Below w.heap.size w w' := by
  have hl : l.length = n := by have := h1.len; rwa [is_len] at this
  have H1 := Lib.hid (fun i (hi : i < n) => h1.at_ hi)
  have H2 := Lib.hid (fun i (hi : i < n) => h2.at_ hi)
  clear h1 h2 hl
  go_enter Try.func12, Try.ntmps12
  go_wp2_with (fail)
  go_loopw [13] (fun ir wr => ∃ i : Nat, i ≤ n ∧ ir = .int .i64 (i : Int) ∧ Hid (Below w.heap.size w wr)) (fun ir _ => n - (intOf ir).toNat)
  case atStart => exact ⟨0, Nat.zero_le _, rfl, Lib.hid (Below.refl _ _)⟩
  case round =>
    obtain ⟨i, hi, rfl, RB⟩ := hrel
    by_cases hlt : i < n
    · obtain ⟨p1, o1, v1, rfl, hp1, hv1, hc1⟩ := H1.out i hlt
      obtain ⟨p2, o2, v2, rfl, hp2, hv2, hc2⟩ := H2.out i hlt
      obtain rfl : v1 = v2 := Option.some.inj (hv1.symm.trans hv2)
      obtain ⟨x, _, rfl⟩ : ∃ x, l[i]? = some x ∧ v1 = .int .i64 x := by
        unfold is at hv1
        rw [List.getElem?_map] at hv1
        cases hx : l[i]? with
        | none => rw [hx] at hv1; cases hv1
        | some x => rw [hx] at hv1; exact ⟨x, rfl, (Option.some.inj hv1).symm⟩
      have d1 := (RB.out.cell (p := ⟨p1, o1 + i, none⟩) hp1).trans hc1
      have d2 := (RB.out.cell (p := ⟨p2, o2 + i, none⟩) hp2).trans hc2
      clear hv1 hv2 hc1 hc2 hp1 hp2
      go_wp2_with (fail)
      go_quiet (fail)
      go_wp2
      go_roundw
      case rel => exact ⟨i + 1, by omega, by go_num, Lib.hid ⟨RB.out.os, RB.out.tape, RB.out.output, RB.out.size, RB.out.block⟩⟩
      case measure => simp [intOf]; omega
    · obtain rfl : i = n := by omega
      go_wp2
      go_ret
      exact ⟨rfl, RB.out⟩
end Go.Proofs.Ytpdgcphflheeiaa
