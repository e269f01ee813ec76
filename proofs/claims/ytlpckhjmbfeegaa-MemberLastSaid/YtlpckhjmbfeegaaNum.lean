/- Contracts of octet's Reader: numbers, texts, bytes. -/
import Derived.Test.YtlpckhjmbfeegaaReader
namespace Go.Proofs.Ytlpckhjmbfeegaa
open Go.RowKit

/-- The number that bytes are, the lowest first. -/
def unle : List UInt8 → Nat
  | [] => 0
  | b :: l => b.toNat + 256 * unle l
theorem unle_lt (l : List UInt8) : unle l < 256 ^ l.length := by
  induction l with
  | nil => simp [unle]
  | cons b l ih =>
    have := b.toNat_lt
    simp only [unle, List.length_cons, Nat.pow_succ]
    omega
theorem unle_le8 (l : List UInt8) (h : l.length ≤ 8) : unle l < 18446744073709551616 :=
  Nat.lt_of_lt_of_le (unle_lt l) (Nat.pow_le_pow_right (by decide) h : 256 ^ l.length ≤ 256 ^ 8)
def St.num (s : St) (W : Int) : Nat × St := if 1 ≤ W ∧ W ≤ 8 then (unle (s.next W).1, (s.next W).2) else (0, ⟨[], true⟩)

theorem or_byte (a : Nat) (b : UInt8) (h : a < 72057594037927936) : bits .or .u64 (IntKind.u64.wrap ((a : Int) * 256)) (IntKind.u64.wrap (b.toNat : Int)) = ((b.toNat + 256 * a : Nat) : Int) := by
  have hb := b.toNat_lt
  have e1 : IntKind.u64.wrap ((a : Int) * 256) = ((a * 256 : Nat) : Int) := by
    rw [IntKind.wrap_u64]; omega
  have e2 : IntKind.u64.wrap (b.toNat : Int) = (b.toNat : Int) := by
    rw [IntKind.wrap_u64]; omega
  rw [e1, e2, u64_or_nat _ _ (by omega) (by omega), nat_join 8 _ _ (by omega) (by omega)]
  omega
theorem unle_step (t : List UInt8) (i : Nat) (hi : i < t.length) (h : t.length - 1 - i < (str t).size) : unle (t.drop (t.length - (i + 1))) = ((str t)[t.length - 1 - i]).toNat + 256 * unle (t.drop (t.length - i)) := by
  have e : t.length - (i + 1) = t.length - 1 - i := by omega
  have hlt : t.length - 1 - i < t.length := by omega
  rw [e, List.drop_eq_getElem_cons hlt]
  have e2 : t.length - 1 - i + 1 = t.length - i := by omega
  rw [e2]
  rfl
theorem St.next_len (s : St) (n : Int) : ((s.next n).1.length : Int) ≤ n ∨ (s.next n).1 = [] := by
  unfold St.next
  split
  · left; simp only [List.length_take]; omega
  · right; rfl

theorem num_any (g : Nat) (s : St) (W : Int) (w : World) (h : Rdr w g s) (h1 : 1 ≤ W) (h8 : W ≤ 8) :
    Calls Try.prog 53 #[.pointer (some ⟨g, 0, none⟩), .int .i64 W] w fun e w' => e = .returned (.int .u64 ((s.num W).1 : Nat)) ∧ Rdr w' g (s.num W).2 ∧ w.grownBy w' (some g) := by
  have hfin : s.num W = (unle (s.next W).1, (s.next W).2) := by unfold St.num; rw [if_pos ⟨h1, h8⟩]
  have hlen := St.next_len s W
  have hn := next_any g s W w h
  generalize s.next W = r at *
  obtain ⟨t, s'⟩ := r
  have hlen : t.length ≤ 8 := by rcases hlen with h | h <;> simp_all; omega
  have H := Lib.hid hfin
  have HN := Lib.hid hn
  clear hfin hn
  have hs : (str t).size = t.length := rfl
  go_enter Try.func53, Try.ntmps53
  go_wp2_with (first
    | (go_at_call 61; refine (isWidth_yes _ _ h1 h8).mono ?_; rintro e w' ⟨rfl, rfl⟩)
    | (go_at_call 63; refine (HN.out).mono ?_; rintro e w1 ⟨rfl, hR, hB⟩))
  go_loop [6, 18] (fun nr ir => ∃ i : Nat, i ≤ t.length ∧ ir = .int .i64 i ∧ nr = .int .u64 ((unle (t.drop (t.length - i)) : Nat) : Int)) (fun _ ir => t.length - (intOf ir).toNat)
  case atStart => exact ⟨0, Nat.zero_le _, rfl, by simp [unle]⟩
  case round =>
    obtain ⟨i, hi, rfl, rfl⟩ := hrel
    by_cases hlt : i < t.length
    · have hlt7 : unle (t.drop (t.length - i)) < 72057594037927936 := Nat.lt_of_lt_of_le (unle_lt _) (Nat.pow_le_pow_right (by decide) (by rw [List.length_drop]; omega) : _ ≤ 256 ^ 7)
      have HL := Lib.hid hlt7
      clear hlt7
      go_wp2
      go_round
      case rel => exact ⟨i + 1, by omega, by go_num, by rw [or_byte _ _ HL.out, unle_step t i hlt]⟩
      case measure => simp [intOf]; omega
    · obtain rfl : i = t.length := by omega
      go_wp2
      go_ret
      exact ⟨by rw [H.out]; simp, by rw [H.out]; exact hR, hB⟩

theorem num_bad (g : Nat) (s : St) (W : Int) (w : World) (h : Rdr w g s) (hW : W < 1 ∨ 8 < W) :
    Calls Try.prog 53 #[.pointer (some ⟨g, 0, none⟩), .int .i64 W] w fun e w' => e = .returned (.int .u64 ((s.num W).1 : Nat)) ∧ Rdr w' g (s.num W).2 ∧ w.grownBy w' (some g) := by
  have hfin : s.num W = (0, ⟨[], true⟩) := by unfold St.num; rw [if_neg (by omega)]
  have H := Lib.hid hfin
  clear hfin
  go_enter Try.func53, Try.ntmps53
  go_wp2_with (first
    | (go_at_call 61; refine (isWidth_no _ _ hW).mono ?_; rintro e w' ⟨rfl, rfl⟩)
    | (go_at_call 62; refine (fail_any _ _ _ h).mono ?_; rintro e w1 ⟨rfl, hR, hB⟩))
  go_ret
  exact ⟨by rw [H.out]; rfl, by rw [H.out]; exact hR, hB⟩
theorem num_all (g : Nat) (s : St) (W : Int) (w : World) (h : Rdr w g s) :
    Calls Try.prog 53 #[.pointer (some ⟨g, 0, none⟩), .int .i64 W] w fun e w' => e = .returned (.int .u64 ((s.num W).1 : Nat)) ∧ Rdr w' g (s.num W).2 ∧ w.grownBy w' (some g) := by
  by_cases h1 : 1 ≤ W ∧ W ≤ 8
  · exact num_any g s W w h h1.1 h1.2
  · exact num_bad g s W w h (by omega)
theorem num_nil (W : Int) (w : World) : Calls Try.prog 53 #[.pointer none, .int .i64 W] w fun e w' => e = .returned (.int .u64 0) ∧ w = w' := by
  by_cases hW : 1 ≤ W ∧ W ≤ 8
  · obtain ⟨h1, h8⟩ := hW
    have hs : (str []).size = 0 := rfl
    go_enter Try.func53, Try.ntmps53
    go_wp2_with (first
      | (go_at_call 61; refine (isWidth_yes _ _ h1 h8).mono ?_; rintro e w' ⟨rfl, rfl⟩)
      | (go_at_call 63; refine (next_nil _ _).mono ?_; rintro e w1 ⟨rfl, rfl⟩))
    go_loop [6, 18] (fun nr ir => ir = .int .i64 0 ∧ nr = .int .u64 0) (fun _ _ => 0)
    case atStart => exact ⟨rfl, rfl⟩
    case round =>
      obtain ⟨rfl, rfl⟩ := hrel
      go_wp2
      go_ret
      exact ⟨rfl, rfl⟩
  · have hW : W < 1 ∨ 8 < W := by omega
    go_enter Try.func53, Try.ntmps53
    go_wp2_with (first
      | (go_at_call 61; refine (isWidth_no _ _ hW).mono ?_; rintro e w' ⟨rfl, rfl⟩)
      | (go_at_call 62; refine (fail_nil _).mono ?_; rintro e w1 ⟨rfl, rfl⟩))
    go_ret
    exact ⟨rfl, rfl⟩

end Go.Proofs.Ytlpckhjmbfeegaa
