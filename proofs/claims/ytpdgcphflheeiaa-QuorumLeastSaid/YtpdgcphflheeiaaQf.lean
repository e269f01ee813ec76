/- slices.choosePivotOrdered. -/
import Derived.Test.YtpdgcphflheeiaaQv
namespace Go.Proofs.Ytpdgcphflheeiaa
open Go.RowKit

/-- Where to part, and a hint. -/
def Pv (w : World) (a b : Nat) (e : Ending) (w' : World) : Prop := ∃ (x : Nat) (h : Int), e = .returned (.tuple #[.int .i64 (x : Int), .int .i64 h]) ∧ a + 1 ≤ x ∧ x + 1 < b ∧ (h = 0 ∨ h = 1 ∨ h = 2) ∧ Below w.heap.size w w'
set_option maxHeartbeats 4000000 in
theorem choose_any {w : World} {g n c : Nat} {d : Array Nat} (a b : Nat) (h : Arr w g d) (hd : d.size = n) (hb : b ≤ n) (hn : n ≤ 1000000) (hab : a + 12 < b) :
    Calls Try.prog 37 #[.slice (some ⟨g, 0, none⟩) n c, .int .i64 (a : Int), .int .i64 (b : Int)] w (Pv w a b) := by
  obtain ⟨l, hl⟩ : ∃ l, b = a + l := ⟨b - a, by omega⟩
  obtain ⟨q, hq⟩ : ∃ q, q = l / 4 := ⟨_, rfl⟩
  have eb : (b : Int) - (a : Int) = (l : Int) := by omega
  have eq : (l : Int) / 4 = (q : Int) := by omega
  obtain ⟨W, hW, hWs, r0, hwW⟩ := boxes1 w #[.int .i64 0] 3
  have hA : Arr W g d := h.below hwW
  have hC : Cnt W w.heap.size 0 := ⟨0, Nat.le_refl _, cell_of_row W _ 0 _ _ _ r0, frozen_of_row W _ 0 _ _ r0⟩
  have hgp : g ≠ w.heap.size := by have := h.here; omega
  have HWB := Lib.hid hwW
  have HAW := Lib.hid hA
  have HGP := Lib.hid hgp
  have hm := Lib.hid (fun (V : World) (k x y z : Nat) (h : Arr V g d) (hk : k ≤ 100) (hc : Cnt V w.heap.size k) (h1 : a + 1 ≤ x) (h2 : x < b - 1) (h3 : a + 1 ≤ y) (h4 : y < b - 1) (h5 : a + 1 ≤ z) (h6 : z < b - 1) =>
    median_any (c := c) (lo := a + 1) (hi := b - 1) x y z h hd hn hk hc hgp (by omega) h1 h2 h3 h4 h5 h6)
  have hj := Lib.hid (fun (V : World) (k x : Nat) (h : Arr V g d) (hk : k ≤ 100) (hc : Cnt V w.heap.size k) (h0 : 1 ≤ x) (h1 : a + 1 ≤ x - 1) (h2 : x + 1 < b - 1) =>
    medadj_any (c := c) (lo := a + 1) (hi := b - 1) x h hd hn hk hc hgp (by omega) h0 h1 h2)
  have v1 : ((a + q : Nat) : Int) = (a : Int) + (q : Int) := by omega
  have v2 : ((a + q * 2 : Nat) : Int) = (a : Int) + (q : Int) * 2 := by omega
  have v3 : ((a + q * 3 : Nat) : Int) = (a : Int) + (q : Int) * 3 := by omega
  have haI : (a : Int) ≤ 1000000 := by omega
  have hbI : (b : Int) ≤ 1000000 := by omega
  have hqI : (q : Int) ≤ 1000000 := by omega
  have hlI : (l : Int) ≤ 1000000 := by omega
  have t1 : decide ((8 : Int) ≤ (l : Int)) = true := decide_eq_true (by omega)
  have t2 : decide (8 ≤ l) = true := decide_eq_true (by omega)
  have hl8 : (8 : Int) ≤ (l : Int) := by omega
  have HLL := Lib.hid hl
  have HQQ := Lib.hid hq
  have HL13 : 13 ≤ l := by omega
  have HC := Lib.hid hC
  by_cases h50 : 50 ≤ l
  · have t3 : decide ((50 : Int) ≤ (l : Int)) = true := decide_eq_true (by omega)
    have t4 : decide (50 ≤ l) = true := decide_eq_true h50
    have H1 := hj.out W 0 (a + q) hA (by omega) hC (by omega) (by omega) (by omega)
    rw [v1] at H1
    have H1 := Lib.hid H1
    have H2 : Hid (∀ V, Arr V g d → Cnt V w.heap.size 3 → Calls Try.prog 48 #[.slice (some ⟨g, 0, none⟩) n c, .int .i64 ((a : Int) + (q : Int) * 2), .pointer (some ⟨w.heap.size, 0, none⟩)] V (M1 V w.heap.size (3 + 3) (a + 1) (b - 1))) := Lib.hid (fun V hv hcv => by
      have := hj.out V 3 (a + q * 2) hv (by omega) hcv (by omega) (by omega) (by omega)
      rw [v2] at this
      exact this)
    have H3 : Hid (∀ V, Arr V g d → Cnt V w.heap.size 6 → Calls Try.prog 48 #[.slice (some ⟨g, 0, none⟩) n c, .int .i64 ((a : Int) + (q : Int) * 3), .pointer (some ⟨w.heap.size, 0, none⟩)] V (M1 V w.heap.size (6 + 3) (a + 1) (b - 1))) := Lib.hid (fun V hv hcv => by
      have := hj.out V 6 (a + q * 3) hv (by omega) hcv (by omega) (by omega) (by omega)
      rw [v3] at this
      exact this)
    clear h hd hl hq hA hC hj v1 v2 v3 r0 hWs hwW hgp h50 HC
    go_enter Try.func37, Try.ntmps37
    go_upto_region 3 with (fail)
    rw [← hW]
    clear hW
    go_upto_region 12 with (first
      | (go_at_call 48; (with_reducible refine H1.out.mono ?_); clear H1; rintro e w1 ⟨x1, rfl, g1, g2, hc1, ht1⟩
         have HA1 := Lib.hid (HAW.out.far ht1 HGP.out)
         have HT1 := Lib.hid ht1
         have HH2 := Lib.hid (H2.out w1 HA1.out hc1)
         clear hc1 ht1 H2)
      | (go_at_call 48; (with_reducible refine HH2.out.mono ?_); clear HH2; rintro e w2 ⟨x2, rfl, g3, g4, hc2, ht2⟩
         have HA2 := Lib.hid (HA1.out.far ht2 HGP.out)
         have HT2 := Lib.hid (HT1.out.trans ht2)
         have HH3 := Lib.hid (H3.out w2 HA2.out hc2)
         clear hc2 ht2 H3)
      | (go_at_call 48; (with_reducible refine HH3.out.mono ?_); clear HH3; rintro e w3 ⟨x3, rfl, g5, g6, hc3, ht3⟩
         have HA3 := Lib.hid (HA2.out.far ht3 HGP.out)
         have HT3 := Lib.hid (HT2.out.trans ht3)
         have HH4 := Lib.hid (hm.out w3 9 x1 x2 x3 HA3.out (by omega) hc3 g1 g2 g3 g4 g5 g6)
         clear hc3 ht3)
      | (go_at_call 49; (with_reducible refine HH4.out.mono ?_); clear HH4; rintro e w4 ⟨r, rfl, g7, g8, hc4, ht4⟩
         have HT4 := Lib.hid (HT3.out.trans ht4)
         obtain ⟨s, _, p0, _⟩ := hc4
         clear ht4)
      | fail)
    have HBel := Lib.hid (HWB.out.grown HT4.out HWB.out.size (fun x e => by cases e; exact Nat.le_refl _))
    have hr1 : a + 1 ≤ r := g7
    have hr2 : r + 1 < b := by omega
    rcases Nat.lt_trichotomy s 0 with hs | hs | hs
    · omega
    · subst hs
      clear t1 t2 t3 t4 hl8
      go_wp2_with (fail)
      go_ret2
      exact ⟨r, _, rfl, hr1, hr2, .inr (.inl rfl), HBel.out⟩
    · by_cases hs12 : s = 12
      · subst hs12
        clear t1 t2 t3 t4 hl8
        go_wp2_with (fail)
        go_ret2
        exact ⟨r, _, rfl, hr1, hr2, .inr (.inr rfl), HBel.out⟩
      · have n1 : ((s : Int) == 0) = false := by simp; omega
        have n2 : ((s : Int) == 12) = false := by simp; omega
        have n3 : ¬ s = 0 := by omega
        clear t1 t2 t3 t4 hl8 hs
        go_wp2_with (fail)
        go_ret2
        exact ⟨r, _, rfl, hr1, hr2, .inl rfl, HBel.out⟩
  · have t3 : decide ((50 : Int) ≤ (l : Int)) = false := decide_eq_false (by omega)
    have t4 : decide (50 ≤ l) = false := decide_eq_false h50
    have H1 := hm.out W 0 (a + q) (a + q * 2) (a + q * 3) hA (by omega) hC (by omega) (by omega) (by omega) (by omega) (by omega) (by omega)
    rw [v1, v2, v3] at H1
    have H1 := Lib.hid H1
    clear h hd hl hq hA hC hj v1 v2 v3 r0 hWs hwW hgp h50 HC
    go_enter Try.func37, Try.ntmps37
    go_upto_region 3 with (fail)
    rw [← hW]
    clear hW
    go_upto_region 12 with (first
      | (go_at_call 49; (with_reducible refine H1.out.mono ?_); clear H1; rintro e w4 ⟨r, rfl, g7, g8, hc4, ht4⟩
         have HT4 := Lib.hid ht4
         obtain ⟨s, _, p0, _⟩ := hc4
         clear ht4)
      | fail)
    have HBel := Lib.hid (HWB.out.grown HT4.out HWB.out.size (fun x e => by cases e; exact Nat.le_refl _))
    have hr1 : a + 1 ≤ r := g7
    have hr2 : r + 1 < b := by omega
    rcases Nat.lt_trichotomy s 0 with hs | hs | hs
    · omega
    · subst hs
      clear t1 t2 t3 t4 hl8
      go_wp2_with (fail)
      go_ret2
      exact ⟨r, _, rfl, hr1, hr2, .inr (.inl rfl), HBel.out⟩
    · by_cases hs12 : s = 12
      · subst hs12
        clear t1 t2 t3 t4 hl8
        go_wp2_with (fail)
        go_ret2
        exact ⟨r, _, rfl, hr1, hr2, .inr (.inr rfl), HBel.out⟩
      · have n1 : ((s : Int) == 0) = false := by simp; omega
        have n2 : ((s : Int) == 12) = false := by simp; omega
        have n3 : ¬ s = 0 := by omega
        clear t1 t2 t3 t4 hl8 hs
        go_wp2_with (fail)
        go_ret2
        exact ⟨r, _, rfl, hr1, hr2, .inl rfl, HBel.out⟩
end Go.Proofs.Ytpdgcphflheeiaa
