/- slices.breakPatternsOrdered. -/
import Derived.Test.YtpdgcphflheeiaaQx
import Derived.Test.YtpdgcphflheeiaaQt
import Derived.Sort.LotD3
namespace Go.Proofs.Ytpdgcphflheeiaa
open Go.RowKit
open Go.Sort (PermIn swp swp_permIn permIn_trans permIn_refl)

theorem len_facts : ∀ n : Fin 200, n.val < 2 ^ Lib.bitLen n.val ∧ (1 ≤ n.val → 2 ^ Lib.bitLen n.val ≤ 2 * n.val) ∧ Lib.bitLen n.val ≤ 8 := by decide +kernel
theorem pow2_any (n : Nat) (w : World) (hn : n ≤ 199) :
    Calls Try.prog 46 #[.int .i64 (n : Int)] w fun e w' => e = .returned (.int .u64 ((2 ^ Lib.bitLen n : Nat) : Int)) ∧ w = w' := by
  have hL := fun W => len_any n W hn
  have hf := (len_facts ⟨n, by omega⟩).2.2
  have e1 := shl_op (yk := .i64) (Lib.bitLen n) ((Lib.bitLen n : Nat) : Int) (by dsimp only at hf; omega) rfl
  have hnI : (n : Int) ≤ 199 := by omega
  clear hf
  generalize Lib.bitLen n = l at *
  generalize 2 ^ l = M at *
  go_enter Try.func46, Try.ntmps46
  go_wp2_with (go_at_call 31; (with_reducible refine (hL _).mono ?_); rintro e w' ⟨rfl, rfl⟩)
  go_ret
  exact ⟨rfl, rfl⟩
theorem Rc.far {w : World} {p g i : Nat} (h : Rc w p) (hg : g ≠ p) (u : Value) : Rc (w.setCell ⟨g, i, none⟩ u) p := by
  obtain ⟨x, hx, p0, p1⟩ := h
  exact ⟨x, hx, by rw [World.cell?_setCell_other w ⟨g, i, none⟩ ⟨p, 0, none⟩ u (fun q => hg (by cases q; rfl))]; exact p0, by rw [World.frozen?_setCell]; exact p1⟩
theorem Trn.new {w w1 w2 : World} {g p : Nat} (h : Trn w g w1) (k : Trn w1 p w2) (hp : w.heap.size ≤ p) : Trn w g w2 := by
  refine ⟨k.os.trans h.os, k.tape.trans h.tape, k.output.trans h.output, Nat.le_trans h.size k.size, fun i hi hne => ?_⟩
  exact (k.block i (Nat.lt_of_lt_of_le hi h.size) (by intro e; cases e; omega)).trans (h.block i hi hne)
def BkL (w : World) (g n a b p : Nat) (d : Array Nat) (wr : World) : Prop := ∃ d', Arr wr g d' ∧ d'.size = n ∧ PermIn a b d d' ∧ Trn w g wr ∧ Rc wr p
/-- What a permutation within a range leaves. -/
def Pm (w : World) (g a b : Nat) (d : Array Nat) (e : Ending) (w' : World) : Prop := ∃ d', e = .returned (.tuple #[]) ∧ Arr w' g d' ∧ PermIn a b d d' ∧ Trn w g w'
theorem perm_swp {a b i j : Nat} {d d' : Array Nat} (h : PermIn a b d d') (h1 : a ≤ i) (h2 : i < b) (h3 : a ≤ j) (h4 : j < b) (h5 : b ≤ d'.size) : PermIn a b d (swp d' i j) :=
  permIn_trans _ _ _ _ _ h (swp_permIn _ _ _ _ _ h1 h2 h3 h4 h5)
set_option maxHeartbeats 4000000 in
set_option maxRecDepth 100000 in
theorem break_any {w : World} {g n c : Nat} {d : Array Nat} (a b : Nat) (h : Arr w g d) (hd : d.size = n) (hb : b ≤ n) (hn : n ≤ 199) (hab : a + 12 < b) :
    Calls Try.prog 36 #[.slice (some ⟨g, 0, none⟩) n c, .int .i64 (a : Int), .int .i64 (b : Int)] w (Pm w g a b d) := by
  obtain ⟨l, hl⟩ : ∃ l, b = a + l := ⟨b - a, by omega⟩
  obtain ⟨q, hq⟩ : ∃ q, q = l / 4 := ⟨_, rfl⟩
  have eb : (b : Int) - (a : Int) = (l : Int) := by omega
  have eq : (l : Int) / 4 = (q : Int) := by omega
  have hP := fun W => pow2_any l W (by omega)
  obtain ⟨f1, f2, f3⟩ := len_facts ⟨l, by omega⟩
  dsimp only at f1 f2 f3
  have f2 := f2 (by omega)
  obtain ⟨M, hM⟩ : ∃ M, M = 2 ^ Lib.bitLen l := ⟨_, rfl⟩
  have HMD := Lib.hid (fun (x : Nat) (hx : x < 18446744073709551616) => show bits .and .u64 (x : Int) ((M : Int) - 1) = ((x % M : Nat) : Int) by
    have h1 : ((M - 1 : Nat) : Int) = (M : Int) - 1 := by omega
    have h2 : M - 1 < 18446744073709551616 := by omega
    rw [← h1, bits_and_u64_nat x _ hx h2, hM, Nat.and_two_pow_sub_one_eq_mod])
  rw [← hM] at hP f1 f2
  have HN := Lib.hid (fun (W : World) (p : Nat) (h : Rc W p) => next_any h)
  obtain ⟨W, hW, hWs, r0, hwW⟩ := boxes1 w #[.int .u64 (l : Int)] 61
  have hgp : g ≠ w.heap.size := by have := h.here; omega
  have H0 : Hid (BkL w g n a b w.heap.size d W) := Lib.hid ⟨d, h.below hwW, hd, permIn_refl d a b, ⟨hwW.os, hwW.tape, hwW.output, hwW.size, fun i hi _ => hwW.block i hi⟩, l, by omega, cell_of_row W _ 0 _ _ _ r0, frozen_of_row W _ 0 _ _ r0⟩
  have haI : (a : Int) ≤ 199 := by omega
  have hbI : (b : Int) ≤ 199 := by omega
  have hqI : (q : Int) ≤ 199 := by omega
  have hlI : (l : Int) ≤ 199 := by omega
  have hMI : (M : Int) ≤ 500 := by omega
  have hM1 : (1 : Int) ≤ (M : Int) := by omega
  have t1 : decide ((8 : Int) ≤ (l : Int)) = true := decide_eq_true (by omega)
  have t2 : decide (8 ≤ l) = true := decide_eq_true (by omega)
  have hl8 : (8 : Int) ≤ (l : Int) := by omega
  have hq3 : 3 ≤ q := by omega
  have hqb : a + q * 2 + 1 < b := by omega
  have HLL := Lib.hid hl
  have HGP := Lib.hid hgp
  have hWl : (l : Int) < 18446744073709551616 := by omega
  clear h hd hl hq r0 hWs hwW hgp hM f3
  go_enter Try.func36, Try.ntmps36
  go_upto_region 3 with (fail)
  rw [← hW]
  clear hW
  go_wp2_with (first
    | (go_at_call 46; (with_reducible refine (hP _).mono ?_); rintro e w3 ⟨rfl, rfl⟩)
    | fail)
  go_loopw [9] (fun ir wr => ∃ i : Nat, a ≤ i ∧ i ≤ a + q * 2 + 2 ∧ ir = .int .i64 (i : Int) ∧ Hid (BkL w g n a b w.heap.size d wr)) (fun ir _ => a + q * 2 + 2 - (intOf ir).toNat)
  case atStart => exact ⟨a + (q * 2 - 1), by omega, by omega, by congr 1; omega, H0⟩
  case round =>
    clear H0 hP
    obtain ⟨i, hi1, hi2, rfl, HL⟩ := hrel
    obtain ⟨d5, ha2, hs2, hp2, ht2, hr2⟩ := HL.out
    have HNX := Lib.hid (HN.out wr w.heap.size hr2)
    have HS2 := Lib.hid hs2
    have HP2 := Lib.hid hp2
    have HA2 := Lib.hid ha2
    have HT2 := Lib.hid ht2
    have hiI : (i : Int) ≤ 500 := by omega
    clear HL ha2 hs2 hp2 ht2 hr2
    by_cases hi3 : i ≤ a + q * 2 + 1
    · have s1 : decide ((i : Int) ≤ (a : Int) + (q : Int) * 2 + 1) = true := decide_eq_true (by omega)
      have s2 : (i : Int) ≤ (a : Int) + (q : Int) * 2 + 1 := by omega
      go_upto_region 8 with (first
        | (go_at_call 47; (with_reducible refine HNX.out.mono ?_); clear HNX; rintro e w1 ⟨x, hx, rfl, hr1, ht1⟩
           have hmd := HMD.out x hx
           have ho := Nat.mod_lt x (show 0 < M by omega)
           generalize x % M = o at *
           have hoI : (o : Int) ≤ 500 := by omega
           have HR1 := Lib.hid hr1
           have HA1 := Lib.hid (HA2.out.far ht1 HGP.out)
           have HT1 := Lib.hid (HT2.out.new ht1 (Nat.le_refl _))
           clear hr1 ht1)
        | fail)
      have HLB := HLL.out
      by_cases hol : l ≤ o
      · obtain ⟨t, et⟩ : ∃ t, o = l + t := ⟨o - l, by omega⟩
        have eo : (o : Int) - (l : Int) = (t : Int) := by omega
        have s3 : decide ((l : Int) ≤ (o : Int)) = true := decide_eq_true (by omega)
        have s4 : decide (l ≤ o) = true := decide_eq_true hol
        have htl : t < l := by omega
        clear et
        have ht : t < l := by omega
        have ha5 := HA1.out
        have hs5 := HS2.out
        have b1 : a + t < n := by omega
        have b2 : (a : Int) + (t : Int) < (n : Int) := by omega
        have b3 : i < n := by omega
        have b4 : (i : Int) < (n : Int) := by omega
        have b5 : (t : Int) ≤ 199 := by omega
        have v1 : ((a : Int) + (t : Int)).toNat = a + t := by omega
        have v2 : 0 ≤ (a : Int) + (t : Int) := by omega
        have w1' : IntKind.i64.wrap ((a : Int) + (t : Int)) = (a : Int) + (t : Int) := IntWalk.i64_in _ (by omega)
        have HPM := Lib.hid (perm_swp HP2.out (i := i) (j := a + t) (by omega) (by omega) (by omega) (by omega) (by rw [hs5]; omega))
        by_cases heq : i = a + t
        · have HSW := Lib.hid ((ha5.swp (i := i) (j := a + t) (by omega) (by omega)).drew)
          rw [← heq] at HSW HPM b1 v1
          have c0 := ha5.cell i (by omega)
          have z0 := ha5.free i (by omega)
          have heI : (a : Int) + (t : Int) = (i : Int) := by omega
          clear ha5 hs5 b2 v1 v2 w1' ht heq b1
          generalize d5[i]! = u at *
          go_wp2_with (fail)
          go_big_region
          all_goals go_wp2
          all_goals go_roundw
          case rel => exact ⟨i + 1, by omega, by omega, by go_num, Lib.hid ⟨_, HSW.out, by rw [swp_size]; exact HS2.out, HPM.out, (((HT1.out.set _ _).set _ _).drew), ((HR1.out.far HGP.out _).far HGP.out _).drew⟩⟩
          case measure => simp [intOf]; omega
        · have HSW := Lib.hid ((ha5.swp (i := i) (j := a + t) (by omega) (by omega)).drew)
          have n1 : ¬ i = a + t := heq
          have n2 : ¬ a + t = i := by omega
          have c0 := ha5.cell i (by omega)
          have z0 := ha5.free i (by omega)
          have c1 := ha5.cell (a + t) (by omega)
          have z1 := ha5.free (a + t) (by omega)
          have HI3 := Lib.hid hi3
          clear ha5 hs5 ht heq
          generalize d5[i]! = u at *
          generalize d5[a + t]! = v at *
          go_wp2_with (fail)
          go_big_region
          all_goals clear w1'
          all_goals go_wp2
          all_goals go_roundw
          case rel => exact ⟨i + 1, by omega, by have := HI3.out; omega, by go_num, Lib.hid ⟨_, HSW.out, by rw [swp_size]; exact HS2.out, HPM.out, (((HT1.out.set _ _).set _ _).drew), ((HR1.out.far HGP.out _).far HGP.out _).drew⟩⟩
          case measure => have := HI3.out; simp [intOf]; omega
      · have s3 : decide ((l : Int) ≤ (o : Int)) = false := decide_eq_false (by omega)
        have s4 : decide (l ≤ o) = false := decide_eq_false hol
        have ht : o < l := by omega
        have ha5 := HA1.out
        have hs5 := HS2.out
        have b1 : a + o < n := by omega
        have b2 : (a : Int) + (o : Int) < (n : Int) := by omega
        have b3 : i < n := by omega
        have b4 : (i : Int) < (n : Int) := by omega
        have b5 : (o : Int) ≤ 199 := by omega
        have v1 : ((a : Int) + (o : Int)).toNat = a + o := by omega
        have v2 : 0 ≤ (a : Int) + (o : Int) := by omega
        have w1' : IntKind.i64.wrap ((a : Int) + (o : Int)) = (a : Int) + (o : Int) := IntWalk.i64_in _ (by omega)
        have HPM := Lib.hid (perm_swp HP2.out (i := i) (j := a + o) (by omega) (by omega) (by omega) (by omega) (by rw [hs5]; omega))
        by_cases heq : i = a + o
        · have HSW := Lib.hid ((ha5.swp (i := i) (j := a + o) (by omega) (by omega)).drew)
          rw [← heq] at HSW HPM b1 v1
          have c0 := ha5.cell i (by omega)
          have z0 := ha5.free i (by omega)
          have heI : (a : Int) + (o : Int) = (i : Int) := by omega
          clear ha5 hs5 b2 v1 v2 w1' ht heq b1
          generalize d5[i]! = u at *
          go_wp2_with (fail)
          go_big_region
          all_goals go_wp2
          all_goals go_roundw
          case rel => exact ⟨i + 1, by omega, by omega, by go_num, Lib.hid ⟨_, HSW.out, by rw [swp_size]; exact HS2.out, HPM.out, (((HT1.out.set _ _).set _ _).drew), ((HR1.out.far HGP.out _).far HGP.out _).drew⟩⟩
          case measure => simp [intOf]; omega
        · have HSW := Lib.hid ((ha5.swp (i := i) (j := a + o) (by omega) (by omega)).drew)
          have n1 : ¬ i = a + o := heq
          have n2 : ¬ a + o = i := by omega
          have c0 := ha5.cell i (by omega)
          have z0 := ha5.free i (by omega)
          have c1 := ha5.cell (a + o) (by omega)
          have z1 := ha5.free (a + o) (by omega)
          have HI3 := Lib.hid hi3
          clear ha5 hs5 ht heq
          generalize d5[i]! = u at *
          generalize d5[a + o]! = v at *
          go_wp2_with (fail)
          go_big_region
          all_goals clear w1'
          all_goals go_wp2
          all_goals go_roundw
          case rel => exact ⟨i + 1, by omega, by have := HI3.out; omega, by go_num, Lib.hid ⟨_, HSW.out, by rw [swp_size]; exact HS2.out, HPM.out, (((HT1.out.set _ _).set _ _).drew), ((HR1.out.far HGP.out _).far HGP.out _).drew⟩⟩
          case measure => have := HI3.out; simp [intOf]; omega
    · have s1 : decide ((i : Int) ≤ (a : Int) + (q : Int) * 2 + 1) = false := decide_eq_false (by omega)
      have s2 : ¬ (i : Int) ≤ (a : Int) + (q : Int) * 2 + 1 := by omega
      go_wp2_with (fail)
      go_end0
      exact ⟨d5, rfl, HA2.out, HP2.out, HT2.out⟩
end Go.Proofs.Ytpdgcphflheeiaa
