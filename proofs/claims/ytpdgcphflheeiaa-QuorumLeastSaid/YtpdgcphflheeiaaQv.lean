/- Where a sort parts: order2, median, medianAdjacent, choosePivot, each as a number within a range. -/
import Derived.Test.YtpdgcphflheeiaaQk
namespace Go.Proofs.Ytpdgcphflheeiaa
open Go.RowKit

/-- A variable that counts. -/
def Cnt (w : World) (p k : Nat) : Prop := ∃ s : Nat, s ≤ k ∧ w.cell? ⟨p, 0, none⟩ = some (.int .i64 (s : Int)) ∧ w.frozen? ⟨p, 0, none⟩ = false
theorem Cnt.drewN {w : World} {p k : Nat} (h : Cnt w p k) (n : Nat) : Cnt (w.drewN n) p k := h
theorem Arr.far {w w1 : World} {g p : Nat} {d : Array Nat} (h : Arr w g d) (hg : Trn w p w1) (hn : g ≠ p) : Arr w1 g d := by
  have hb := hg.block g h.here (by intro e; exact hn (Option.some.inj e))
  refine ⟨Nat.lt_of_lt_of_le h.here hg.size, fun i hi => ?_, fun i hi => ?_⟩
  · rw [← h.cell i hi]; exact World.cell?_of_block (a := ⟨g, i, none⟩) hb
  · rw [← h.free i hi]; exact World.frozen?_of_block (a := ⟨g, i, none⟩) hb
/-- Two numbers within a range, and the count turned. -/
def O2 (w : World) (p k lo hi : Nat) (e : Ending) (w' : World) : Prop := ∃ x y : Nat, e = .returned (.tuple #[.int .i64 (x : Int), .int .i64 (y : Int)]) ∧ lo ≤ x ∧ x < hi ∧ lo ≤ y ∧ y < hi ∧ Cnt w' p (k + 1) ∧ Trn w p w'
set_option maxHeartbeats 1000000 in
theorem order2_any {w : World} {g n c p k lo hi : Nat} {d : Array Nat} (x y : Nat) (h : Arr w g d) (hd : d.size = n) (_ : n ≤ 1000000) (hk : k ≤ 1000) (hc : Cnt w p k) (hhi : hi ≤ n) (h1 : lo ≤ x) (h2 : x < hi) (h3 : lo ≤ y) (h4 : y < hi) :
    Calls Try.prog 51 #[.slice (some ⟨g, 0, none⟩) n c, .int .i64 (x : Int), .int .i64 (y : Int), .pointer (some ⟨p, 0, none⟩)] w (O2 w p k lo hi) := by
  have c0 := h.cell y (by omega)
  have c1 := h.cell x (by omega)
  obtain ⟨s, hs, p0, p1⟩ := hc
  have b1 : x < n := by omega
  have b2 : (x : Int) < (n : Int) := by omega
  have b3 : y < n := by omega
  have b4 : (y : Int) < (n : Int) := by omega
  have hsI : (s : Int) ≤ 1000 := by omega
  have hq := fun W => qless d[y]! d[x]! W
  clear h hd
  generalize d[y]! = u at *
  generalize d[x]! = v at *
  cases hb : ltN u v with
  | true =>
    rw [hb] at hq
    clear hb
    have HF : ∀ m, Hid (O2 w p k lo hi (.returned (.tuple #[.int .i64 (y : Int), .int .i64 (x : Int)])) ((w.drewN m).setCell ⟨p, 0, none⟩ (.int .i64 ((s : Int) + 1)))) := fun m =>
      Lib.hid ⟨y, x, rfl, h3, h4, h1, h2, ⟨s + 1, by omega, by rw [World.cell?_setCell_same _ _ _ (show (w.drewN m).cell? _ = _ from p0)]; congr 1, by rw [World.frozen?_setCell]; exact p1⟩, ((Trn.refl w p).drewN m).set _ _⟩
    have HF := Lib.hid HF
    clear h1 h2 h3 h4 hs hk
    go_enter Try.func51, Try.ntmps51
    go_wp2_with (fail)
    go_quiet ((go_at_call 40; exact Calls.quiet_of_same (hq _)))
    go_wp2_with (fail)
    go_ret2
    exact (HF.out _).out
  | false =>
    rw [hb] at hq
    clear hb
    have HF : ∀ m, Hid (O2 w p k lo hi (.returned (.tuple #[.int .i64 (x : Int), .int .i64 (y : Int)])) (w.drewN m)) := fun m =>
      Lib.hid ⟨x, y, rfl, h1, h2, h3, h4, ⟨s, by omega, p0, p1⟩, (Trn.refl w p).drewN m⟩
    have HF := Lib.hid HF
    clear h1 h2 h3 h4 hs hk
    go_enter Try.func51, Try.ntmps51
    go_wp2_with (fail)
    go_quiet ((go_at_call 40; exact Calls.quiet_of_same (hq _)))
    go_wp2_with (fail)
    go_ret2
    exact (HF.out _).out
/-- One number within a range, and the count turned. -/
def M1 (w : World) (p k lo hi : Nat) (e : Ending) (w' : World) : Prop := ∃ x : Nat, e = .returned (.int .i64 (x : Int)) ∧ lo ≤ x ∧ x < hi ∧ Cnt w' p k ∧ Trn w p w'
theorem median_any {w : World} {g n c p k lo hi : Nat} {d : Array Nat} (x y z : Nat) (h : Arr w g d) (hd : d.size = n) (hn : n ≤ 1000000) (hk : k ≤ 100) (hc : Cnt w p k) (hgp : g ≠ p) (hhi : hi ≤ n) (h1 : lo ≤ x) (h2 : x < hi) (h3 : lo ≤ y) (h4 : y < hi) (h5 : lo ≤ z) (h6 : z < hi) :
    Calls Try.prog 49 #[.slice (some ⟨g, 0, none⟩) n c, .int .i64 (x : Int), .int .i64 (y : Int), .int .i64 (z : Int), .pointer (some ⟨p, 0, none⟩)] w (M1 w p (k + 3) lo hi) := by
  have HO := Lib.hid (fun (W : World) (k : Nat) (x y : Nat) (h : Arr W g d) (hk : k ≤ 1000) (hc : Cnt W p k) => order2_any (c := c) (lo := lo) (hi := hi) x y h hd hn hk hc hhi)
  have HA := Lib.hid h
  have HC := Lib.hid (HO.out w k x y h (by omega) hc h1 h2 h3 h4)
  clear h hd hc
  go_enter Try.func49, Try.ntmps49
  go_wp2_with (first
    | (go_at_call 51; (with_reducible refine HC.out.mono ?_); clear HC; rintro e w1 ⟨x1, y1, rfl, g1, g2, g3, g4, hc1, ht1⟩
       have HA1 := Lib.hid (HA.out.far ht1 hgp)
       have HT1 := Lib.hid ht1
       have HC1 := Lib.hid (HO.out w1 (k + 1) y1 z HA1.out (by omega) hc1 g3 g4 h5 h6)
       clear hc1 ht1)
    | (go_at_call 51; (with_reducible refine HC1.out.mono ?_); clear HC1; rintro e w2 ⟨x2, y2, rfl, g5, g6, g7, g8, hc2, ht2⟩
       have HA2 := Lib.hid (HA1.out.far ht2 hgp)
       have HT2 := Lib.hid (HT1.out.trans ht2)
       have HC2 := Lib.hid (HO.out w2 (k + 2) x1 x2 HA2.out (by omega) hc2 g1 g2 g5 g6)
       clear hc2 ht2)
    | (go_at_call 51; (with_reducible refine HC2.out.mono ?_); clear HC2; rintro e w3 ⟨x3, y3, rfl, g9, g10, g11, g12, hc3, ht3⟩)
    | fail)
  go_ret
  exact ⟨y3, rfl, g11, g12, hc3, HT2.out.trans ht3⟩
theorem medadj_any {w : World} {g n c p k lo hi : Nat} {d : Array Nat} (x : Nat) (h : Arr w g d) (hd : d.size = n) (hn : n ≤ 1000000) (hk : k ≤ 100) (hc : Cnt w p k) (hgp : g ≠ p) (hhi : hi ≤ n) (h0 : 1 ≤ x) (h1 : lo ≤ x - 1) (h2 : x + 1 < hi) :
    Calls Try.prog 48 #[.slice (some ⟨g, 0, none⟩) n c, .int .i64 (x : Int), .pointer (some ⟨p, 0, none⟩)] w (M1 w p (k + 3) lo hi) := by
  obtain ⟨q, rfl⟩ : ∃ q, x = q + 1 := ⟨x - 1, by omega⟩
  have HM := median_any (c := c) (lo := lo) (hi := hi) q (q + 1) (q + 1 + 1) h hd hn hk hc hgp hhi (by omega) (by omega) (by omega) (by omega) (by omega) (by omega)
  rw [show ((q + 1 + 1 : Nat) : Int) = (q : Int) + 1 + 1 by omega, show ((q + 1 : Nat) : Int) = (q : Int) + 1 by omega] at HM
  rw [show ((q + 1 : Nat) : Int) = (q : Int) + 1 by omega]
  have HM := Lib.hid HM
  have hqI : (q : Int) ≤ 1000000 := by omega
  clear h hd hc h0 h1 h2
  go_enter Try.func48, Try.ntmps48
  go_wp2_with (first
    | (go_at_call 49; (with_reducible refine HM.out.mono ?_); rintro e w1 ⟨r, rfl, g1, g2, hc1, ht1⟩)
    | fail)
  go_ret
  exact ⟨r, rfl, g1, g2, hc1, ht1⟩
end Go.Proofs.Ytpdgcphflheeiaa
