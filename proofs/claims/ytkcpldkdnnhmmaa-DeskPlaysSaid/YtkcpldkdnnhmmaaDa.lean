/- What a desk's small calls do: Len, Round, made, full, Sure; the closures. -/
import Derived.Test.YtkcpldkdnnhmmaaDk
namespace Go.Proofs.Ytkcpldkdnnhmmaa
open Go.RowKit
set_option maxRecDepth 20000
theorem nset_pos {n : Nat} (h : 1 ≤ n) : 1 ≤ nset n := by
  unfold nset
  have : 2 ^ 1 ≤ 2 ^ n := Nat.pow_le_pow_right (by decide) h
  omega
theorem nset_lt {n : Nat} (h : n ≤ 7) : nset n < 128 := by
  unfold nset
  have : 2 ^ n ≤ 2 ^ 7 := Nat.pow_le_pow_right (by decide) h
  omega
theorem nset_bit (n k : Nat) : (nset n).testBit k = decide (k < n) := by unfold nset; rw [Nat.testBit_two_pow_sub_one]
theorem nset_memb {n : Nat} (h : n ≤ 7) : Qu.memb (nset n) = List.range n := by
  have : ∀ m : Fin 8, Qu.memb (nset m.val) = List.range m.val := by decide +kernel
  exact this ⟨n, by omega⟩
section
variable {w w' w1 : World} {B g : Nat} {v : Value} {t : Dk}
theorem dlen_any (h : Dg w B g v t) : Calls Try.prog 13 #[.pointer (some ⟨g, 0, none⟩)] w fun e w' => e = .returned (.int .i64 (t.l.length : Int)) ∧ w = w' := by
  obtain ⟨A, c, rfl⟩ := h.form
  have c10 := h.c10
  clear h
  go_enter Try.func13, Try.ntmps13
  go_wp2
  go_ret
  exact ⟨rfl, rfl⟩
theorem round_any (h : Dg w B g v t) : Calls Try.prog 14 #[.pointer (some ⟨g, 0, none⟩)] w fun e w' => e = .returned (.int .u64 (t.round : Int)) ∧ w = w' := by
  have c2 := h.c2
  clear h
  go_enter Try.func14, Try.ntmps14
  go_wp2
  go_ret
  exact ⟨rfl, rfl⟩
theorem made_any (h : Dg w B g v t) : Calls Try.prog 34 #[.pointer (some ⟨g, 0, none⟩)] w fun e w' => e = .returned (.bool true) ∧ w = w' := by
  have c0 := h.c0
  have hp := nset_pos h.ok.n1
  generalize nset t.n = s at *
  have h0 : ¬ s = 0 := by omega
  have h1 : ¬ (s : Int) = 0 := by omega
  have d0 : decide ((s : Int) = 0) = false := by simpa using h0
  have d1 : decide (s = 0) = false := by simpa using h0
  clear h hp
  go_enter Try.func34, Try.ntmps34
  go_wp2
  go_ret
  first | exact ⟨rfl, rfl⟩ | exact ⟨ret_bool (by simp; omega), rfl⟩
theorem full_any (h : Dg w B g v t) : Calls Try.prog 36 #[.pointer (some ⟨g, 0, none⟩)] w fun e w' => e = .returned (.bool t.full) ∧ Below w.heap.size w w' := by
  obtain ⟨A, c, rfl⟩ := h.form
  have c10 := h.c10
  have HF : Hid (decide (64 ≤ t.l.length) = t.full) := Lib.hid rfl
  clear h
  go_enter Try.func36, Try.ntmps36
  go_wp2
  go_ret
  rw [← HF.out]
  exact ⟨Qu.ret_bool (by first | rfl | (simp; omega)), by first | exact Below.refl _ _ | exact ⟨rfl, rfl, rfl, Nat.le_refl _, fun _ _ => rfl⟩⟩
theorem clos_any {p : Nat} (h : Dg w B g v t) (hp : w.cell? ⟨p, 0, none⟩ = some (.pointer (some ⟨g, 0, none⟩))) (k : Nat) (hk : k < 7) : Calls Try.prog 29 #[.int .i64 (k : Int), .pointer (some ⟨p, 0, none⟩)] w fun e w' => e = .returned (.int .u64 ((t.at_ k : Nat) : Int)) ∧ w = w' := by
  have c1 := h.c1
  have c2 := h.c2
  have ch := h.ch hk
  have HA := Lib.hid (show t.at_ k = if k = t.self then t.round else t.h.getD k 0 from rfl)
  generalize t.at_ k = y at *
  generalize t.h.getD k 0 = x at *
  have hk7 : (k : Int) < 7 := by omega
  have hk6 : (k : Int) ≤ 6 := by omega
  by_cases he : k = t.self
  · have HE := Lib.hid (HA.out.trans (if_pos he))
    have d0 : decide ((k : Int) = (t.self : Int)) = true := by simp; omega
    have d1 : (k : Int) = (t.self : Int) := by omega
    clear h HA
    go_enter Try.func29, Try.ntmps29
    go_wp2
    go_ret
    exact ⟨Qu.ret_u64 (by rw [HE.out]), rfl⟩
  · have HE := Lib.hid (HA.out.trans (if_neg he))
    have d1 : ¬ (k : Int) = (t.self : Int) := by omega
    have d0 : decide ((k : Int) = (t.self : Int)) = false := by simp; omega
    clear h HA
    go_enter Try.func29, Try.ntmps29
    go_wp2
    go_ret
    exact ⟨Qu.ret_u64 (by rw [HE.out]), rfl⟩
theorem sure_any (h : Dg w B g v t) : Calls Try.prog 15 #[.pointer (some ⟨g, 0, none⟩)] w fun e w' => e = .returned (.int .u64 (t.sure : Int)) ∧ Below w.heap.size w w' := by
  obtain ⟨W, hW, hz, r0, hb⟩ := Qu.boxes1 w #[.pointer (some ⟨g, 0, none⟩)] 24
  have hn := h.ok.n7
  have h1 := h.below hb
  have hl := Qu.least_any (nset t.n) w.heap.size t.at_ W (by have := nset_lt hn; omega) (by rw [nset_memb hn, List.length_range]; omega) (fun W' hb' k hk => by
    rw [nset_memb hn] at hk
    refine clos_any (h1.below hb') ?_ k (by have := List.mem_range.1 hk; omega)
    exact Qu.kept hb' (cell_of_row W _ 0 _ _ _ r0) (by omega))
  have HL := Lib.hid hl
  have HS := Lib.hid (show t.sure = Qu.lst (nset t.n) t.at_ from rfl)
  have HB := Lib.hid hb
  have c0 := h1.c0
  have r00 := cell_of_row W _ 0 _ _ _ r0
  generalize t.sure = y at *
  rw [← HS.out] at HL
  generalize nset t.n = s at *
  clear h h1 hl hb hz r0 hn HS
  subst hW
  go_enter Try.func15, Try.ntmps15
  go_wp2_with (first
    | (go_at_call 28; refine HL.out.mono ?_; rintro e w3 ⟨rfl, hb3⟩)
    | fail)
  go_ret
  exact ⟨rfl, HB.out.trans (hb3.mono HB.out.size)⟩
end
theorem dec_nat (a b : Nat) : decide ((a : Int) = (b : Int)) = decide (a = b) := by
  by_cases h : a = b
  · subst h; simp
  · have : ¬ (a : Int) = (b : Int) := by omega
    simp [h, this]
theorem beq_nat (a b : Nat) : ((a : Int) == (b : Int)) = decide (a = b) := by rw [← dec_nat]; rfl
theorem beq_nat0 (a : Nat) : ((a : Int) == 0) = decide (a = 0) := beq_nat a 0
theorem isRead_any (x : Wt) (w : World) : Calls Try.prog 32 #[.agg x.cells] w fun e w' => e = .returned (.bool x.isRead) ∧ Below w.heap.size w w' := by
  have HA := Lib.hid (show x.isRead = decide (x.ix = 0) from rfl)
  generalize x.isRead = b at *
  obtain ⟨cl, rq, ix, fr, ct, rd⟩ := x
  unfold Wt.cells
  dsimp only at *
  go_enter Try.func32, Try.ntmps32
  go_wp2
  go_ret
  exact ⟨Qu.ret_bool (by rw [HA.out]; first | rfl | exact beq_nat0 _ | exact dec_nat _ 0), (Below.refl _ _).alloc (Nat.le_refl _) _⟩
theorem isOf_any (x : Wt) (c r : Nat) (w : World) : Calls Try.prog 33 #[.agg x.cells, .int .u64 (c : Int), .int .u64 (r : Int)] w fun e w' => e = .returned (.bool (x.isOf c r)) ∧ Below w.heap.size w w' := by
  have HA := Lib.hid (show x.isOf c r = (decide (x.cl = c) && decide (x.rq = r)) from rfl)
  generalize x.isOf c r = b at *
  obtain ⟨cl, rq, ix, fr, ct, rd⟩ := x
  unfold Wt.cells
  dsimp only at *
  by_cases hc : cl = c
  · subst hc
    go_enter Try.func33, Try.ntmps33
    go_wp2
    go_ret
    exact ⟨Qu.ret_bool (by rw [HA.out]; simp [beq_nat]), (Below.refl _ _).alloc (Nat.le_refl _) _⟩
  · have d0 : decide ((cl : Int) = (c : Int)) = false := by rw [dec_nat]; simpa using hc
    have d1 : ¬ (cl : Int) = (c : Int) := by omega
    have HC := Lib.hid hc
    go_enter Try.func33, Try.ntmps33
    go_wp2
    go_ret
    exact ⟨Qu.ret_bool (by rw [HA.out]; simp [HC.out]), (Below.refl _ _).alloc (Nat.le_refl _) _⟩
end Go.Proofs.Ytkcpldkdnnhmmaa
