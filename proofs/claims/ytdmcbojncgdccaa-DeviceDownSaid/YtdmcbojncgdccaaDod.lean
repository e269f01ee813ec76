/- A call, both ways: Do of a read. -/
import Derived.Test.YtdmcbojncgdccaaDoc
namespace Go.Proofs.Ytdmcbojncgdccaa
open Go.RowKit

set_option maxHeartbeats 4000000 in
set_option maxRecDepth 8000 in
theorem do_read {w : World} {B g q bs bl k M : Nat} {v vs vl : Value} {d : Dv} {r : Rv} (h : Dev w B g bs bl v k d) (hk : k + d.ws.length ≤ M) (hdo : d.done ≤ M) (hr : Rdev w B q vs vl r) (hs : r.safe.length + r.loose.length ≤ M) (hrd : r.done ≤ M) (hM : M ≤ 100000) (hdj : ∀ i, Foot g bs bl v i → ¬ Rfoot q vs vl i)
    (kd x n : Int) (A A2 : Option Addr) (bn bc kn kc : Nat) (hkd : kd = 1) (hn : Key n) :
    Calls Try.prog 11 #[.pointer (some ⟨g, 0, none⟩), .pointer (some ⟨q, 0, none⟩), .agg #[.int .i64 kd, .int .i64 x, .int .i64 n, .slice A bn bc, .slice A2 kn kc]] w fun e w' => (∃ b, e = .returned (.bool b)) ∧ Pair w' B g q (fun i => (Foot g bs bl v i ∨ Rfoot q vs vl i) ∨ w.heap.size ≤ i) (M + 16) (d) ∧ Keeps (fun i => Foot g bs bl v i ∨ Rfoot q vs vl i) w w' := by
  obtain ⟨W0, hW0⟩ : ∃ W0, W0 = w.alloc (.cells #[.int .i64 kd, .int .i64 x, .int .i64 n, .slice A bn bc, .slice A2 kn kc] 33) := ⟨_, rfl⟩
  have hr0 : W0.heap[w.heap.size]? = some (.cells #[.int .i64 kd, .int .i64 x, .int .i64 n, .slice A bn bc, .slice A2 kn kc] 33 (0, 0)) := by rw [hW0]; exact heap_alloc_new w _
  have hg0 : w.grownBy W0 none := by rw [hW0]; exact World.grownBy_alloc _ _ _
  have hD0 := h.new hg0
  have hR0 := hr.new hg0
  have hF : ∀ i, (Foot g bs bl v i ∨ Rfoot q vs vl i) → i < w.heap.size := fun i hi => by
    rcases hi with hi | hi
    · exact (h.foot_lt hi).2
    · exact (hr.foot_lt hi).2
  have hF0 : ¬ (Foot g bs bl v w.heap.size ∨ Rfoot q vs vl w.heap.size) := fun hi => by have := hF _ hi; omega
  have s0 : W0.cell? ⟨w.heap.size, 0, none⟩ = some (.int .i64 kd) := cell_of_row W0 _ 0 _ _ _ hr0
  have s1 : W0.cell? ⟨w.heap.size, 1, none⟩ = some (.int .i64 x) := cell_of_row W0 _ 1 _ _ _ hr0
  have s2 : W0.cell? ⟨w.heap.size, 2, none⟩ = some (.int .i64 n) := cell_of_row W0 _ 2 _ _ _ hr0
  have s4 : W0.cell? ⟨w.heap.size, 4, none⟩ = some (.slice A2 kn kc) := cell_of_row W0 _ 4 _ _ _ hr0

  have hfin : ∀ (d' : Dv) (r' : Rv) (w1 w2 : World), Dleft W0 B g bs bl v (M + 16) d' w1 → Rdl w1 B q vs vl (M + 16) r' w2 → Pair w2 B g q (fun i => (Foot g bs bl v i ∨ Rfoot q vs vl i) ∨ w.heap.size ≤ i) (M + 16) d' ∧ Keeps (fun i => Foot g bs bl v i ∨ Rfoot q vs vl i) w w2 := fun d' r' w1 w2 hD hR => by
    obtain ⟨hP, hKK⟩ := pair_both hD0 hR0 hdj hD hR
    exact ⟨hP.mono (Nat.le_refl _) (fun i hi => hi.imp id (fun h1 => Nat.le_trans hg0.size h1)), ((Keeps.refl _ _).grown hg0 (fun k e => by cases e)).trans hKK (fun i hi => .inl hi)⟩
  have HW0 := Lib.hid hW0
  have HFIN := Lib.hid hfin
  subst hkd
  have HDR := Lib.hid (fun (W : World) (hb : Below W0.heap.size W0 W) => read_all (hD0.below hb) x n hn)
  have HRR := Lib.hid (fun (W : World) (hb : Below W0.heap.size W0 W) => rread_all (hR0.below hb) (by omega) x n)
  have HKD := Lib.hid (dl_same (M := M + 16) hD0 (by omega) (by omega))
  have HKR := Lib.hid (rdl_same (M := M + 16) hR0 (by omega) (by omega))
  have HDB := Lib.hid (fun (W : World) (hb : Below W0.heap.size W0 W) => dl_same (M := M + 16) (hD0.below hb) (by omega) (by omega))
  have HRB := Lib.hid (fun (W : World) (hb : Below W0.heap.size W0 W) => rdl_same (M := M + 16) (hR0.below hb) (by omega) (by omega))
  have c0 := hR0.c0
  have hrn : (r.n : Int) ≤ 65536 := by have := hR0.ok.n; omega
  have hgrow : ∀ W, Below W0.heap.size W0 W → Pair W B g q (fun i => (Foot g bs bl v i ∨ Rfoot q vs vl i) ∨ w.heap.size ≤ i) (M + 16) d ∧ Keeps (fun i => Foot g bs bl v i ∨ Rfoot q vs vl i) w W := fun W hb => by
    refine ⟨⟨bs, bl, v, k, vs, vl, r, hD0.below hb, by omega, by omega, hR0.below hb, by omega, by omega, hdj, fun i hi => .inl hi⟩, ((Keeps.refl _ _).grown hg0 (fun k e => by cases e)).trans (Keeps.of_below (F := fun _ => False) hb) (fun i hi => hi.elim)⟩
  have HGR := Lib.hid hgrow
  clear hgrow hn
  have hfin : ∀ (d' : Dv) (r' : Rv) (w1 w2 : World), Dleft W0 B g bs bl v (M + 16) d' w1 → Rdl w1 B q vs vl (M + 16) r' w2 → Pair w2 B g q (fun i => (Foot g bs bl v i ∨ Rfoot q vs vl i) ∨ w.heap.size ≤ i) (M + 16) d' ∧ Keeps (fun i => Foot g bs bl v i ∨ Rfoot q vs vl i) w w2 := fun d' r' w1 w2 hD hR => by
    obtain ⟨hP, hKK⟩ := pair_both hD0 hR0 hdj hD hR
    exact ⟨hP.mono (Nat.le_refl _) (fun i hi => hi.imp id (fun h1 => Nat.le_trans hg0.size h1)), ((Keeps.refl _ _).grown hg0 (fun k e => by cases e)).trans hKK (fun i hi => .inl hi)⟩
  have HW0 := Lib.hid hW0
  clear hD0 hR0 hW0 hg0 hdj hF h hr hk hdo hs hrd hM hr0 hfin
  by_cases h1 : 100 < n
  · have b1 : decide (100 < n) = true := by simpa using h1
    by_cases h2 : n ≤ (r.n : Int)
    · have b2 : decide (n ≤ (r.n : Int)) = true := by simpa using h2
      go_enter Try.func11, Try.ntmps11
      go_wp2
      rw [← HW0.out]
      go_quiet (fail)
      have hbq : Below W0.heap.size W0 (W0.drewN nq) := ⟨rfl, rfl, rfl, Nat.le_refl _, fun _ _ => rfl⟩
      have t1 := (hbq.cell (p := ⟨w.heap.size, 1, none⟩) (block_lt_of_cell s1)).trans s1
      have t2 := (hbq.cell (p := ⟨w.heap.size, 2, none⟩) (block_lt_of_cell s2)).trans s2
      have HBQ := Lib.hid hbq
      clear hbq
      generalize W0.drewN nq = W1 at *
      go_wp2
      go_ret
      exact ⟨⟨_, rfl⟩, HGR.out _ HBQ.out⟩
    · have b2 : decide (n ≤ (r.n : Int)) = false := by simpa using h2
      go_enter Try.func11, Try.ntmps11
      go_wp2
      rw [← HW0.out]
      go_quiet (fail)
      have hbq : Below W0.heap.size W0 (W0.drewN nq) := ⟨rfl, rfl, rfl, Nat.le_refl _, fun _ _ => rfl⟩
      have t1 := (hbq.cell (p := ⟨w.heap.size, 1, none⟩) (block_lt_of_cell s1)).trans s1
      have t2 := (hbq.cell (p := ⟨w.heap.size, 2, none⟩) (block_lt_of_cell s2)).trans s2
      have HBQ := Lib.hid hbq
      clear hbq
      generalize W0.drewN nq = W1 at *
      go_wp2_with (first
        | (go_at_call 13; refine (HDR.out _ HBQ.out).mono ?_; rintro e w5 ⟨A5, n5, c5, l5, E5, rfl, hr5, hb5⟩
           have hb05 : Below W0.heap.size W0 w5 := HBQ.out.trans (hb5.mono HBQ.out.size)
           have u1 := (hb5.cell (p := ⟨w.heap.size, 1, none⟩) (block_lt_of_cell t1)).trans t1
           have u2 := (hb5.cell (p := ⟨w.heap.size, 2, none⟩) (block_lt_of_cell t2)).trans t2
           have H05 := Lib.hid hb05
           have HR5 := Lib.hid hr5
           clear hb05 hb5 hr5)
        | (go_at_call 25; refine (HRR.out _ H05.out).mono ?_; rintro e w6 ⟨A6, n6, c6, l6, E6, rfl, hr6, hb6⟩
           have hb06 : Below W0.heap.size W0 w6 := H05.out.trans (hb6.mono H05.out.size)
           have hr56 := (HR5.out.below hb6)
           have H06 := Lib.hid hb06
           have HR6 := Lib.hid hr6
           have HR56 := Lib.hid hr56
           clear hb06 hb6 hr6 hr56)
        | (refine wpL_str rfl (.tmp 60) _ _ rfl Try.underlying31 Try.underlying5 Try.underlying9 rfl HR56.out ?_)
        | (refine wpL_str rfl (.tmp 62) _ _ rfl Try.underlying31 Try.underlying5 Try.underlying9 rfl HR6.out ?_)
        | fail)
      all_goals (go_ret; exact ⟨⟨_, rfl⟩, HGR.out _ H06.out⟩)
  · have b1 : decide (100 < n) = false := by simpa using h1
    go_enter Try.func11, Try.ntmps11
    go_wp2
    rw [← HW0.out]
    go_quiet (fail)
    have hbq : Below W0.heap.size W0 (W0.drewN nq) := ⟨rfl, rfl, rfl, Nat.le_refl _, fun _ _ => rfl⟩
    have t1 := (hbq.cell (p := ⟨w.heap.size, 1, none⟩) (block_lt_of_cell s1)).trans s1
    have t2 := (hbq.cell (p := ⟨w.heap.size, 2, none⟩) (block_lt_of_cell s2)).trans s2
    have HBQ := Lib.hid hbq
    clear hbq
    generalize W0.drewN nq = W1 at *
    go_wp2_with (first
      | (go_at_call 13; refine (HDR.out _ HBQ.out).mono ?_; rintro e w5 ⟨A5, n5, c5, l5, E5, rfl, hr5, hb5⟩
         have hb05 : Below W0.heap.size W0 w5 := HBQ.out.trans (hb5.mono HBQ.out.size)
         have u1 := (hb5.cell (p := ⟨w.heap.size, 1, none⟩) (block_lt_of_cell t1)).trans t1
         have u2 := (hb5.cell (p := ⟨w.heap.size, 2, none⟩) (block_lt_of_cell t2)).trans t2
         have H05 := Lib.hid hb05
         have HR5 := Lib.hid hr5
         clear hb05 hb5 hr5)
      | (go_at_call 25; refine (HRR.out _ H05.out).mono ?_; rintro e w6 ⟨A6, n6, c6, l6, E6, rfl, hr6, hb6⟩
         have hb06 : Below W0.heap.size W0 w6 := H05.out.trans (hb6.mono H05.out.size)
         have hr56 := (HR5.out.below hb6)
         have H06 := Lib.hid hb06
         have HR6 := Lib.hid hr6
         have HR56 := Lib.hid hr56
         clear hb06 hb6 hr6 hr56)
      | (refine wpL_str rfl (.tmp 60) _ _ rfl Try.underlying31 Try.underlying5 Try.underlying9 rfl HR56.out ?_)
      | (refine wpL_str rfl (.tmp 62) _ _ rfl Try.underlying31 Try.underlying5 Try.underlying9 rfl HR6.out ?_)
      | fail)
    all_goals (go_ret; exact ⟨⟨_, rfl⟩, HGR.out _ H06.out⟩)

end Go.Proofs.Ytdmcbojncgdccaa
