/- The closures that tell who goes; who goes and who stays. -/
import Derived.Test.YtkcpldkdnnhmmaaDa
namespace Go.Proofs.Ytkcpldkdnnhmmaa
open Go.RowKit
set_option maxRecDepth 20000

def Wt.v (x : Wt) : Value := .agg x.cells
/-- A function that tells of a wait, in every world behind this one. -/
def Tells (w : World) (F : FuncId) (caps : Array Value) (p : Wt → Bool) (l : List Wt) : Prop := ∀ W, Below w.heap.size w W → ∀ x ∈ l, Calls Try.prog F (#[x.v] ++ caps) W fun e w' => e = .returned (.bool (p x)) ∧ Below W.heap.size W w'
theorem writeC_any (x : Wt) (c r a b : Nat) (w : World) (h1 : w.cell? ⟨a, 0, none⟩ = some (.int .u64 (c : Int))) (h2 : w.cell? ⟨b, 0, none⟩ = some (.int .u64 (r : Int))) :
    Calls Try.prog 31 #[x.v, .pointer (some ⟨a, 0, none⟩), .pointer (some ⟨b, 0, none⟩)] w fun e w' => e = .returned (.bool (x.wr c r)) ∧ Below w.heap.size w w' := by
  have HI := Lib.hid (fun W => isRead_any x W)
  have HO := Lib.hid (fun W => isOf_any x c r W)
  have HA := Lib.hid (show x.wr c r = (!x.isRead && x.isOf c r) from rfl)
  have hl1 := World.block_lt_of_cell? w _ h1
  have hl2 := World.block_lt_of_cell? w _ h2
  generalize x.wr c r = q at *
  generalize x.isRead = rd_ at *
  generalize x.isOf c r = of_ at *
  obtain ⟨cl, rq, ix, fr, ct, rd⟩ := x
  unfold Wt.v Wt.cells at *
  dsimp only at *
  obtain ⟨W, hW, hz, r0, hb⟩ := Qu.boxes1 w #[.int .u64 (cl : Int), .int .u64 (rq : Int), .int .u64 (ix : Int), .int .u32 (fr : Int), .int .u32 (ct : Int), .int .u64 (rd : Int)] 55
  have HB := Lib.hid hb
  have HZ := Lib.hid hz
  have g1 := Qu.kept hb h1 hl1
  have g2 := Qu.kept hb h2 hl2
  have q0 := cell_of_row W _ 0 _ _ _ r0
  have q1 := cell_of_row W _ 1 _ _ _ r0
  have q2 := cell_of_row W _ 2 _ _ _ r0
  have q3 := cell_of_row W _ 3 _ _ _ r0
  have q4 := cell_of_row W _ 4 _ _ _ r0
  have q5 := cell_of_row W _ 5 _ _ _ r0
  have HR := Lib.hid r0
  have HG1 := Lib.hid g1
  have HG2 := Lib.hid g2
  clear h1 h2 hb hz r0
  subst hW
  cases rd_
  · go_enter Try.func31, Try.ntmps31
    go_wp2_with (first
      | (go_at_call 32; refine (HI.out _).mono ?_; rintro e w1 ⟨rfl, hb1⟩
         have k0 := Qu.kept hb1 q0 (by simp)
         have k1 := Qu.kept hb1 q1 (by simp)
         have k2 := Qu.kept hb1 q2 (by simp)
         have k3 := Qu.kept hb1 q3 (by simp)
         have k4 := Qu.kept hb1 q4 (by simp)
         have k5 := Qu.kept hb1 q5 (by simp)
         have l1 := Qu.kept hb1 g1 (by simp; omega)
         have l2 := Qu.kept hb1 g2 (by simp; omega)
         have HB1 := Lib.hid hb1
         clear hb1)
      | (go_at_call 33; refine (HO.out _).mono ?_; rintro e w2 ⟨rfl, hb2⟩)
      | fail)
    go_ret
    exact ⟨Qu.ret_bool (by rw [HA.out]; rfl), HB.out.trans ((HB1.out.trans (hb2.mono HB1.out.size)).mono (by simp))⟩
  · go_enter Try.func31, Try.ntmps31
    go_wp2_with (first
      | (go_at_call 32; refine (HI.out _).mono ?_; rintro e w1 ⟨rfl, hb1⟩)
      | fail)
    go_ret
    exact ⟨Qu.ret_bool (by rw [HA.out]; rfl), HB.out.trans (hb1.mono (by simp))⟩
theorem readC_any (x : Wt) (c r a b : Nat) (w : World) (h1 : w.cell? ⟨a, 0, none⟩ = some (.int .u64 (c : Int))) (h2 : w.cell? ⟨b, 0, none⟩ = some (.int .u64 (r : Int))) :
    Calls Try.prog 38 #[x.v, .pointer (some ⟨a, 0, none⟩), .pointer (some ⟨b, 0, none⟩)] w fun e w' => e = .returned (.bool (x.rdr c r)) ∧ Below w.heap.size w w' := by
  have HI := Lib.hid (fun W => isRead_any x W)
  have HO := Lib.hid (fun W => isOf_any x c r W)
  have HA := Lib.hid (show x.rdr c r = (x.isRead && x.isOf c r) from rfl)
  have hl1 := World.block_lt_of_cell? w _ h1
  have hl2 := World.block_lt_of_cell? w _ h2
  generalize x.rdr c r = q at *
  generalize x.isRead = rd_ at *
  generalize x.isOf c r = of_ at *
  obtain ⟨cl, rq, ix, fr, ct, rd⟩ := x
  unfold Wt.v Wt.cells at *
  dsimp only at *
  obtain ⟨W, hW, hz, r0, hb⟩ := Qu.boxes1 w #[.int .u64 (cl : Int), .int .u64 (rq : Int), .int .u64 (ix : Int), .int .u32 (fr : Int), .int .u32 (ct : Int), .int .u64 (rd : Int)] 55
  have HB := Lib.hid hb
  have g1 := Qu.kept hb h1 hl1
  have g2 := Qu.kept hb h2 hl2
  have q0 := cell_of_row W _ 0 _ _ _ r0
  have q1 := cell_of_row W _ 1 _ _ _ r0
  have q2 := cell_of_row W _ 2 _ _ _ r0
  have q3 := cell_of_row W _ 3 _ _ _ r0
  have q4 := cell_of_row W _ 4 _ _ _ r0
  have q5 := cell_of_row W _ 5 _ _ _ r0
  clear h1 h2 hb hz r0
  subst hW
  cases rd_
  · go_enter Try.func38, Try.ntmps38
    go_wp2_with (first
      | (go_at_call 32; refine (HI.out _).mono ?_; rintro e w1 ⟨rfl, hb1⟩)
      | fail)
    go_ret
    exact ⟨Qu.ret_bool (by rw [HA.out]; rfl), HB.out.trans (hb1.mono (by simp))⟩
  · go_enter Try.func38, Try.ntmps38
    go_wp2_with (first
      | (go_at_call 32; refine (HI.out _).mono ?_; rintro e w1 ⟨rfl, hb1⟩
         have k0 := Qu.kept hb1 q0 (by simp)
         have k1 := Qu.kept hb1 q1 (by simp)
         have k2 := Qu.kept hb1 q2 (by simp)
         have k3 := Qu.kept hb1 q3 (by simp)
         have k4 := Qu.kept hb1 q4 (by simp)
         have k5 := Qu.kept hb1 q5 (by simp)
         have l1 := Qu.kept hb1 g1 (by simp; omega)
         have l2 := Qu.kept hb1 g2 (by simp; omega)
         have HB1 := Lib.hid hb1
         clear hb1)
      | (go_at_call 33; refine (HO.out _).mono ?_; rintro e w2 ⟨rfl, hb2⟩)
      | fail)
    go_ret
    exact ⟨Qu.ret_bool (by rw [HA.out]; rfl), HB.out.trans ((HB1.out.trans (hb2.mono HB1.out.size)).mono (by simp))⟩
theorem le_nat (a b : Nat) : decide ((a : Int) ≤ (b : Int)) = decide (a ≤ b) := by
  by_cases h : a ≤ b
  · have : (a : Int) ≤ (b : Int) := by omega
    simp [h, this]
  · have : ¬ (a : Int) ≤ (b : Int) := by omega
    simp [h, this]
theorem heardC_any (x : Wt) (s a : Nat) (w : World) (h1 : w.cell? ⟨a, 0, none⟩ = some (.int .u64 (s : Int))) :
    Calls Try.prog 40 #[x.v, .pointer (some ⟨a, 0, none⟩)] w fun e w' => e = .returned (.bool (x.upto s)) ∧ Below w.heap.size w w' := by
  have HI := Lib.hid (fun W => isRead_any x W)
  have HA := Lib.hid (show x.upto s = (x.isRead && decide (x.rd ≤ s)) from rfl)
  have hl1 := World.block_lt_of_cell? w _ h1
  generalize x.upto s = q at *
  generalize x.isRead = rd_ at *
  obtain ⟨cl, rq, ix, fr, ct, rd⟩ := x
  unfold Wt.v Wt.cells at *
  dsimp only at *
  obtain ⟨W, hW, hz, r0, hb⟩ := Qu.boxes1 w #[.int .u64 (cl : Int), .int .u64 (rq : Int), .int .u64 (ix : Int), .int .u32 (fr : Int), .int .u32 (ct : Int), .int .u64 (rd : Int)] 55
  have HB := Lib.hid hb
  have g1 := Qu.kept hb h1 hl1
  have q0 := cell_of_row W _ 0 _ _ _ r0
  have q1 := cell_of_row W _ 1 _ _ _ r0
  have q2 := cell_of_row W _ 2 _ _ _ r0
  have q3 := cell_of_row W _ 3 _ _ _ r0
  have q4 := cell_of_row W _ 4 _ _ _ r0
  have q5 := cell_of_row W _ 5 _ _ _ r0
  clear h1 hb hz r0
  subst hW
  cases rd_
  · go_enter Try.func40, Try.ntmps40
    go_wp2_with (first
      | (go_at_call 32; refine (HI.out _).mono ?_; rintro e w1 ⟨rfl, hb1⟩)
      | fail)
    go_ret
    exact ⟨Qu.ret_bool (by rw [HA.out]; rfl), HB.out.trans (hb1.mono (by simp))⟩
  · go_enter Try.func40, Try.ntmps40
    go_wp2_with (first
      | (go_at_call 32; refine (HI.out _).mono ?_; rintro e w1 ⟨rfl, hb1⟩
         have k5 := Qu.kept hb1 q5 (by simp)
         have l1 := Qu.kept hb1 g1 (by simp; omega)
         have HB1 := Lib.hid hb1
         clear hb1)
      | fail)
    go_ret
    exact ⟨Qu.ret_bool (by rw [HA.out]; first | exact le_nat _ _ | simp), HB.out.trans (HB1.out.mono (by simp))⟩
theorem appliedC_any (x : Wt) (L M a : Nat) (w : World) (hL : L < 18446744073709551616) (hM : M < 18446744073709551616) (hx : x.ix < 18446744073709551616) (h1 : w.cell? ⟨a, 0, none⟩ = some (.int .u64 (L : Int))) (h2 : w.cell? ⟨a, 1, none⟩ = some (.int .u64 (M : Int))) :
    Calls Try.prog 41 #[x.v, .pointer (some ⟨a, 0, none⟩)] w fun e w' => e = .returned (.bool (x.done L M)) ∧ Below w.heap.size w w' := by
  have HI := Lib.hid (fun W => isRead_any x W)
  have HO := Lib.hid (fun W => has_any L M x.ix W hL hM hx)
  have HA := Lib.hid (show x.done L M = (!x.isRead && Hs L M x.ix) from rfl)
  have hl1 := World.block_lt_of_cell? w _ h1
  generalize x.done L M = q at *
  generalize x.isRead = rd_ at *
  generalize Hs L M x.ix = of_ at *
  obtain ⟨cl, rq, ix, fr, ct, rd⟩ := x
  unfold Wt.v Wt.cells at *
  dsimp only at *
  obtain ⟨W, hW, hz, r0, hb⟩ := Qu.boxes1 w #[.int .u64 (cl : Int), .int .u64 (rq : Int), .int .u64 (ix : Int), .int .u32 (fr : Int), .int .u32 (ct : Int), .int .u64 (rd : Int)] 55
  have HB := Lib.hid hb
  have g1 := Qu.kept hb h1 hl1
  have g2 := Qu.kept hb h2 hl1
  have q0 := cell_of_row W _ 0 _ _ _ r0
  have q1 := cell_of_row W _ 1 _ _ _ r0
  have q2 := cell_of_row W _ 2 _ _ _ r0
  have q3 := cell_of_row W _ 3 _ _ _ r0
  have q4 := cell_of_row W _ 4 _ _ _ r0
  have q5 := cell_of_row W _ 5 _ _ _ r0
  clear h1 h2 hb hz r0
  subst hW
  cases rd_
  · go_enter Try.func41, Try.ntmps41
    go_wp2_with (first
      | (go_at_call 32; refine (HI.out _).mono ?_; rintro e w1 ⟨rfl, hb1⟩
         have k2 := Qu.kept hb1 q2 (by simp)
         have l1 := Qu.kept hb1 g1 (by simp; omega)
         have l2 := Qu.kept hb1 g2 (by simp; omega)
         have HB1 := Lib.hid hb1
         clear hb1)
      | (go_at_call 42; refine (HO.out _).mono ?_; rintro e w2 ⟨rfl, hb2⟩)
      | fail)
    go_ret
    exact ⟨Qu.ret_bool (by rw [HA.out]; rfl), HB.out.trans ((HB1.out.trans (hb2.mono HB1.out.size)).mono (by simp))⟩
  · go_enter Try.func41, Try.ntmps41
    go_wp2_with (first
      | (go_at_call 32; refine (HI.out _).mono ?_; rintro e w1 ⟨rfl, hb1⟩)
      | fail)
    go_ret
    exact ⟨Qu.ret_bool (by rw [HA.out]; rfl), HB.out.trans (hb1.mono (by simp))⟩
end Go.Proofs.Ytkcpldkdnnhmmaa
