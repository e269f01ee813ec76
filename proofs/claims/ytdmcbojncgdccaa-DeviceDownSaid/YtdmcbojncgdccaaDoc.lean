/- A call, both ways: Do, the other kinds. -/
import Derived.Test.YtdmcbojncgdccaaDob
namespace Go.Proofs.Ytdmcbojncgdccaa
open Go.RowKit

set_option maxHeartbeats 4000000 in
set_option maxRecDepth 8000 in
theorem do_flush {w : World} {B g q bs bl k M : Nat} {v vs vl : Value} {d : Dv} {r : Rv} (h : Dev w B g bs bl v k d) (hk : k + d.ws.length ≤ M) (hdo : d.done ≤ M) (hr : Rdev w B q vs vl r) (hs : r.safe.length + r.loose.length ≤ M) (hrd : r.done ≤ M) (hM : M ≤ 100000) (hdj : ∀ i, Foot g bs bl v i → ¬ Rfoot q vs vl i)
    (kd x n : Int) (A A2 : Option Addr) (bn bc kn kc : Nat) (hkd : kd = 2) :
    Calls Try.prog 11 #[.pointer (some ⟨g, 0, none⟩), .pointer (some ⟨q, 0, none⟩), .agg #[.int .i64 kd, .int .i64 x, .int .i64 n, .slice A bn bc, .slice A2 kn kc]] w fun e w' => (∃ b, e = .returned (.bool b)) ∧ Pair w' B g q (fun i => (Foot g bs bl v i ∨ Rfoot q vs vl i) ∨ w.heap.size ≤ i) (M + 16) (d.flush.1) ∧ Keeps (fun i => Foot g bs bl v i ∨ Rfoot q vs vl i) w w' := by
  obtain ⟨W0, hW0⟩ : ∃ W0, W0 = w.alloc (.cells #[.int .i64 kd, .int .i64 x, .int .i64 n, .slice A bn bc, .slice A2 kn kc] 33) := ⟨_, rfl⟩
  have hr0 : W0.heap[w.heap.size]? = some (.cells #[.int .i64 kd, .int .i64 x, .int .i64 n, .slice A bn bc, .slice A2 kn kc] 33 (0, 0)) := by rw [hW0]; exact heap_alloc_new w _
  have hg0 : w.grownBy W0 none := by rw [hW0]; exact World.grownBy_alloc _ _ _
  have hD0 := h.new hg0
  have hR0 := hr.new hg0
  have hF : ∀ i, (Foot g bs bl v i ∨ Rfoot q vs vl i) → i < w.heap.size := fun i hi => by
    rcases hi with hi | hi
    · exact (h.foot_lt hi).2
    · exact (hr.foot_lt hi).2
  have hF0 : ¬ (Foot g bs bl v w.heap.size ∨ Rfoot q vs vl w.heap.size) := fun hi => by have := hF _ hi; omega
  have s0 : W0.cell? ⟨w.heap.size, 0, none⟩ = some (.int .i64 kd) := cell_of_row W0 _ 0 _ _ _ hr0
  have s1 : W0.cell? ⟨w.heap.size, 1, none⟩ = some (.int .i64 x) := cell_of_row W0 _ 1 _ _ _ hr0
  have s2 : W0.cell? ⟨w.heap.size, 2, none⟩ = some (.int .i64 n) := cell_of_row W0 _ 2 _ _ _ hr0
  have s4 : W0.cell? ⟨w.heap.size, 4, none⟩ = some (.slice A2 kn kc) := cell_of_row W0 _ 4 _ _ _ hr0
  subst hkd
  have hfin : ∀ (d' : Dv) (r' : Rv) (w1 w2 : World), Dleft W0 B g bs bl v (M + 16) d' w1 → Rdl w1 B q vs vl (M + 16) r' w2 → Pair w2 B g q (fun i => (Foot g bs bl v i ∨ Rfoot q vs vl i) ∨ w.heap.size ≤ i) (M + 16) d' ∧ Keeps (fun i => Foot g bs bl v i ∨ Rfoot q vs vl i) w w2 := fun d' r' w1 w2 hD hR => by
    obtain ⟨hP, hKK⟩ := pair_both hD0 hR0 hdj hD hR
    exact ⟨hP.mono (Nat.le_refl _) (fun i hi => hi.imp id (fun h1 => Nat.le_trans hg0.size h1)), ((Keeps.refl _ _).grown hg0 (fun k e => by cases e)).trans hKK (fun i hi => .inl hi)⟩
  have HW0 := Lib.hid hW0
  have HFIN := Lib.hid hfin
  have HDW := Lib.hid (flush_all hD0 hk hdo hM)
  have HRW := Lib.hid (fun (W : World) (hR : Rdev W B q vs vl r) => rflush_all hR hs hrd hM)
  have HRD := Lib.hid (fun (w1 : World) (d' : Dv) (hD : Dleft W0 B g bs bl v (M + 16) d' w1) => hD.rdev hR0 hdj)
  clear hD0 hR0 hW0 hg0 hdj hF h hr hk hdo hs hrd hM hr0 hfin
  go_enter Try.func11, Try.ntmps11
  go_wp2_with (first
    | (go_at_call 12; rw [← HW0.out]; refine HDW.out.mono ?_; rintro e w5 ⟨rfl, hD5⟩; have HR5 := Lib.hid (HRD.out _ _ hD5); have HD5 := Lib.hid hD5; clear hD5)
    | (go_at_call 26; refine (HRW.out _ HR5.out).mono ?_; rintro e w6 ⟨rfl, hR6⟩; have HR6 := Lib.hid hR6; clear hR6)
    | fail)
  go_ret
  exact ⟨⟨_, rfl⟩, HFIN.out _ _ _ _ HD5.out HR6.out⟩
set_option maxHeartbeats 4000000 in
set_option maxRecDepth 8000 in
theorem do_crash {w : World} {B g q bs bl k M : Nat} {v vs vl : Value} {d : Dv} {r : Rv} (h : Dev w B g bs bl v k d) (hk : k + d.ws.length ≤ M) (hdo : d.done ≤ M) (hr : Rdev w B q vs vl r) (hs : r.safe.length + r.loose.length ≤ M) (hrd : r.done ≤ M) (hM : M ≤ 100000) (hdj : ∀ i, Foot g bs bl v i → ¬ Rfoot q vs vl i)
    (kd x n : Int) (A A2 : Option Addr) (bn bc kn kc : Nat) (hkd : kd = 4) (ks : List Int) (hl : Rd w w.heap.size 1 A2 kn kc (ks.map (Value.int .i64))) (hkn : kn ≤ 1000) (hsep : 0 < kn → ∀ b o, A2 = some ⟨b, o, none⟩ → ¬ (Foot g bs bl v b ∨ Rfoot q vs vl b)) :
    Calls Try.prog 11 #[.pointer (some ⟨g, 0, none⟩), .pointer (some ⟨q, 0, none⟩), .agg #[.int .i64 kd, .int .i64 x, .int .i64 n, .slice A bn bc, .slice A2 kn kc]] w fun e w' => (∃ b, e = .returned (.bool b)) ∧ Pair w' B g q (fun i => (Foot g bs bl v i ∨ Rfoot q vs vl i) ∨ w.heap.size ≤ i) (M + 16) (d.crash ks) ∧ Keeps (fun i => Foot g bs bl v i ∨ Rfoot q vs vl i) w w' := by
  obtain ⟨W0, hW0⟩ : ∃ W0, W0 = w.alloc (.cells #[.int .i64 kd, .int .i64 x, .int .i64 n, .slice A bn bc, .slice A2 kn kc] 33) := ⟨_, rfl⟩
  have hr0 : W0.heap[w.heap.size]? = some (.cells #[.int .i64 kd, .int .i64 x, .int .i64 n, .slice A bn bc, .slice A2 kn kc] 33 (0, 0)) := by rw [hW0]; exact heap_alloc_new w _
  have hg0 : w.grownBy W0 none := by rw [hW0]; exact World.grownBy_alloc _ _ _
  have hD0 := h.new hg0
  have hR0 := hr.new hg0
  have hF : ∀ i, (Foot g bs bl v i ∨ Rfoot q vs vl i) → i < w.heap.size := fun i hi => by
    rcases hi with hi | hi
    · exact (h.foot_lt hi).2
    · exact (hr.foot_lt hi).2
  have hF0 : ¬ (Foot g bs bl v w.heap.size ∨ Rfoot q vs vl w.heap.size) := fun hi => by have := hF _ hi; omega
  have s0 : W0.cell? ⟨w.heap.size, 0, none⟩ = some (.int .i64 kd) := cell_of_row W0 _ 0 _ _ _ hr0
  have s1 : W0.cell? ⟨w.heap.size, 1, none⟩ = some (.int .i64 x) := cell_of_row W0 _ 1 _ _ _ hr0
  have s2 : W0.cell? ⟨w.heap.size, 2, none⟩ = some (.int .i64 n) := cell_of_row W0 _ 2 _ _ _ hr0
  have s4 : W0.cell? ⟨w.heap.size, 4, none⟩ = some (.slice A2 kn kc) := cell_of_row W0 _ 4 _ _ _ hr0
  subst hkd
  have hfin : ∀ (d' : Dv) (r' : Rv) (w1 w2 : World), Dleft W0 B g bs bl v (M + 16) d' w1 → Rdl w1 B q vs vl (M + 16) r' w2 → Pair w2 B g q (fun i => (Foot g bs bl v i ∨ Rfoot q vs vl i) ∨ w.heap.size ≤ i) (M + 16) d' ∧ Keeps (fun i => Foot g bs bl v i ∨ Rfoot q vs vl i) w w2 := fun d' r' w1 w2 hD hR => by
    obtain ⟨hP, hKK⟩ := pair_both hD0 hR0 hdj hD hR
    exact ⟨hP.mono (Nat.le_refl _) (fun i hi => hi.imp id (fun h1 => Nat.le_trans hg0.size h1)), ((Keeps.refl _ _).grown hg0 (fun k e => by cases e)).trans hKK (fun i hi => .inl hi)⟩
  have HW0 := Lib.hid hW0
  have HFIN := Lib.hid hfin
  have hl0 : Rd W0 W0.heap.size 1 A2 kn kc (ks.map (Value.int .i64)) := (hl.keep (fun b o hb => World.cell?_of_block (a := ⟨b, o, none⟩) (hg0.block b hb (fun e => by cases e)))).more hg0.size
  have HDW := Lib.hid (crash_all hD0 hk hdo hM A2 kn kc ks hl0 (by omega) (fun h0 b o e hf => hsep h0 b o e (.inl hf)))
  have HRW := Lib.hid (fun (W : World) (hR : Rdev W B q vs vl r) (hlW : Rd W W.heap.size 1 A2 kn kc (ks.map (Value.int .i64))) => rcrash_all hR hs hrd hM A2 kn kc ks hlW (by omega) (fun h0 b o e hf => hsep h0 b o e (.inr hf)))
  have HRD := Lib.hid (fun (w1 : World) (d' : Dv) (hD : Dleft W0 B g bs bl v (M + 16) d' w1) => hD.rdev hR0 hdj)
  have HL0 := Lib.hid hl0
  have HSEP := Lib.hid hsep
  clear hl hl0 hkn hsep
  clear hD0 hR0 hW0 hg0 hdj hF h hr hk hdo hs hrd hM hr0 hfin
  go_enter Try.func11, Try.ntmps11
  go_wp2_with (first
    | (go_at_call 15; rw [← HW0.out]; refine HDW.out.mono ?_; rintro e w5 ⟨rfl, hD5⟩
       have HR5 := Lib.hid (HRD.out _ _ hD5)
       have HK5 : Hid (Keeps (Foot g bs bl v) W0 w5) := Lib.hid (by obtain ⟨a1, a2, a3, a4, a5, a6, a7, a8, a9⟩ := hD5; exact a8)
       have s45 := HK5.out.cell s4 (fun hf => hF0 (.inl hf))
       have HD5 := Lib.hid hD5
       clear hD5)
    | (go_at_call 27; refine (HRW.out _ HR5.out ((HL0.out.stayn (fun hp b o e hb => HK5.out.block b hb (fun hf => HSEP.out hp b o e (.inl hf)))).more HK5.out.size)).mono ?_; rintro e w6 ⟨rfl, hR6⟩; have HR6 := Lib.hid hR6; clear hR6)
    | fail)
  go_ret
  exact ⟨⟨_, rfl⟩, HFIN.out _ _ _ _ HD5.out HR6.out⟩
set_option maxHeartbeats 4000000 in
set_option maxRecDepth 8000 in
theorem do_fuse {w : World} {B g q bs bl k M : Nat} {v vs vl : Value} {d : Dv} {r : Rv} (h : Dev w B g bs bl v k d) (hk : k + d.ws.length ≤ M) (hdo : d.done ≤ M) (hr : Rdev w B q vs vl r) (hs : r.safe.length + r.loose.length ≤ M) (hrd : r.done ≤ M) (hM : M ≤ 100000) (hdj : ∀ i, Foot g bs bl v i → ¬ Rfoot q vs vl i)
    (kd x n : Int) (A A2 : Option Addr) (bn bc kn kc : Nat) (hkd : kd = 3) (hn : Key n) :
    Calls Try.prog 11 #[.pointer (some ⟨g, 0, none⟩), .pointer (some ⟨q, 0, none⟩), .agg #[.int .i64 kd, .int .i64 x, .int .i64 n, .slice A bn bc, .slice A2 kn kc]] w fun e w' => (∃ b, e = .returned (.bool b)) ∧ Pair w' B g q (fun i => (Foot g bs bl v i ∨ Rfoot q vs vl i) ∨ w.heap.size ≤ i) (M + 16) (d.fused n) ∧ Keeps (fun i => Foot g bs bl v i ∨ Rfoot q vs vl i) w w' := by
  obtain ⟨W0, hW0⟩ : ∃ W0, W0 = w.alloc (.cells #[.int .i64 kd, .int .i64 x, .int .i64 n, .slice A bn bc, .slice A2 kn kc] 33) := ⟨_, rfl⟩
  have hr0 : W0.heap[w.heap.size]? = some (.cells #[.int .i64 kd, .int .i64 x, .int .i64 n, .slice A bn bc, .slice A2 kn kc] 33 (0, 0)) := by rw [hW0]; exact heap_alloc_new w _
  have hg0 : w.grownBy W0 none := by rw [hW0]; exact World.grownBy_alloc _ _ _
  have hD0 := h.new hg0
  have hR0 := hr.new hg0
  have hF : ∀ i, (Foot g bs bl v i ∨ Rfoot q vs vl i) → i < w.heap.size := fun i hi => by
    rcases hi with hi | hi
    · exact (h.foot_lt hi).2
    · exact (hr.foot_lt hi).2
  have hF0 : ¬ (Foot g bs bl v w.heap.size ∨ Rfoot q vs vl w.heap.size) := fun hi => by have := hF _ hi; omega
  have s0 : W0.cell? ⟨w.heap.size, 0, none⟩ = some (.int .i64 kd) := cell_of_row W0 _ 0 _ _ _ hr0
  have s1 : W0.cell? ⟨w.heap.size, 1, none⟩ = some (.int .i64 x) := cell_of_row W0 _ 1 _ _ _ hr0
  have s2 : W0.cell? ⟨w.heap.size, 2, none⟩ = some (.int .i64 n) := cell_of_row W0 _ 2 _ _ _ hr0
  have s4 : W0.cell? ⟨w.heap.size, 4, none⟩ = some (.slice A2 kn kc) := cell_of_row W0 _ 4 _ _ _ hr0
  subst hkd
  have hfin : ∀ (d' : Dv) (r' : Rv) (w1 w2 : World), Dleft W0 B g bs bl v (M + 16) d' w1 → Rdl w1 B q vs vl (M + 16) r' w2 → Pair w2 B g q (fun i => (Foot g bs bl v i ∨ Rfoot q vs vl i) ∨ w.heap.size ≤ i) (M + 16) d' ∧ Keeps (fun i => Foot g bs bl v i ∨ Rfoot q vs vl i) w w2 := fun d' r' w1 w2 hD hR => by
    obtain ⟨hP, hKK⟩ := pair_both hD0 hR0 hdj hD hR
    exact ⟨hP.mono (Nat.le_refl _) (fun i hi => hi.imp id (fun h1 => Nat.le_trans hg0.size h1)), ((Keeps.refl _ _).grown hg0 (fun k e => by cases e)).trans hKK (fun i hi => .inl hi)⟩
  have HW0 := Lib.hid hW0
  have HFIN := Lib.hid hfin
  have HDW := Lib.hid (fuse_any hD0 n hn)
  have HRD := Lib.hid (fun (w1 : World) (d' : Dv) (hD : Dleft W0 B g bs bl v (M + 16) d' w1) => hD.rdev hR0 hdj)
  have HKD := Lib.hid (And.intro hk hdo)
  have HKR := Lib.hid (And.intro hs hrd)
  have HN := Lib.hid hn
  have hn1 : -9223372036854775808 ≤ n := hn.1
  have hn2 : n ≤ 9223372036854775807 := hn.2
  clear hn
  clear hD0 hR0 hW0 hg0 hdj hF h hr hk hdo hs hrd hM hr0 hfin
  go_enter Try.func11, Try.ntmps11
  go_wp2_with (first
    | (go_at_call 18; rw [← HW0.out]; refine HDW.out.mono ?_; rintro e w5 ⟨rfl, hD5, hg5⟩
       have hK5 : Keeps (Foot g bs bl v) W0 w5 := (Keeps.one hg5).wide (fun i hi => .inl hi)
       have hD5' : Dleft W0 B g bs bl v (M + 16) (d.fused n) w5 := ⟨bs, bl, v, k, hD5, Nat.le_trans HKD.out.1 (Nat.le_add_right _ _), Nat.le_trans HKD.out.2 (Nat.le_add_right _ _), hK5, fun i hi => .inl hi⟩
       have hR5 := HRD.out _ _ hD5'
       have s25 := hK5.cell s2 (fun hf => hF0 (.inl hf))
       have c4 := hR5.c4
       have f4 := hR5.free 4
       have HR5 := Lib.hid hR5
       have HD5 := Lib.hid hD5'
       clear hD5 hg5 hK5 hD5' hR5)
    | fail)
  go_ret
  have hrow := set_row HR5.out.row 4 (.int .i64 (max n (-1)))
  have hg6 := setCell_grows w5 q 4 (.int .i64 (max n (-1)))
  have hR6 : Rdev (w5.setCell ⟨q, 4, none⟩ (.int .i64 (max n (-1)))) B q vs vl { r with fuse := max n (-1) } := HR5.out.set hrow hg6 rfl rfl ⟨HR5.out.ok.n, HR5.out.ok.safe, HR5.out.ok.loose, by show -1 ≤ max n (-1) ∧ max n (-1) ≤ _; omega⟩
  exact ⟨⟨_, rfl⟩, HFIN.out _ _ _ _ HD5.out ⟨vs, vl, hR6, Nat.le_trans HKR.out.1 (Nat.le_add_right _ _), Nat.le_trans HKR.out.2 (Nat.le_add_right _ _), (Keeps.one hg6).wide (fun i hi => .inl hi), fun i hi => .inl hi⟩⟩
set_option maxHeartbeats 4000000 in
set_option maxRecDepth 8000 in
theorem do_else {w : World} {B g q bs bl k M : Nat} {v vs vl : Value} {d : Dv} {r : Rv} (h : Dev w B g bs bl v k d) (hk : k + d.ws.length ≤ M) (hdo : d.done ≤ M) (hr : Rdev w B q vs vl r) (hs : r.safe.length + r.loose.length ≤ M) (hrd : r.done ≤ M) (hM : M ≤ 100000) (hdj : ∀ i, Foot g bs bl v i → ¬ Rfoot q vs vl i)
    (kd x n : Int) (A A2 : Option Addr) (bn bc kn kc : Nat) (h0 : kd ≠ 0) (h1 : kd ≠ 1) (h2 : kd ≠ 2) (h3 : kd ≠ 3) (h4 : kd ≠ 4) :
    Calls Try.prog 11 #[.pointer (some ⟨g, 0, none⟩), .pointer (some ⟨q, 0, none⟩), .agg #[.int .i64 kd, .int .i64 x, .int .i64 n, .slice A bn bc, .slice A2 kn kc]] w fun e w' => (∃ b, e = .returned (.bool b)) ∧ Pair w' B g q (fun i => (Foot g bs bl v i ∨ Rfoot q vs vl i) ∨ w.heap.size ≤ i) (M + 16) (d) ∧ Keeps (fun i => Foot g bs bl v i ∨ Rfoot q vs vl i) w w' := by
  obtain ⟨W0, hW0⟩ : ∃ W0, W0 = w.alloc (.cells #[.int .i64 kd, .int .i64 x, .int .i64 n, .slice A bn bc, .slice A2 kn kc] 33) := ⟨_, rfl⟩
  have hr0 : W0.heap[w.heap.size]? = some (.cells #[.int .i64 kd, .int .i64 x, .int .i64 n, .slice A bn bc, .slice A2 kn kc] 33 (0, 0)) := by rw [hW0]; exact heap_alloc_new w _
  have hg0 : w.grownBy W0 none := by rw [hW0]; exact World.grownBy_alloc _ _ _
  have hD0 := h.new hg0
  have hR0 := hr.new hg0
  have hF : ∀ i, (Foot g bs bl v i ∨ Rfoot q vs vl i) → i < w.heap.size := fun i hi => by
    rcases hi with hi | hi
    · exact (h.foot_lt hi).2
    · exact (hr.foot_lt hi).2
  have hF0 : ¬ (Foot g bs bl v w.heap.size ∨ Rfoot q vs vl w.heap.size) := fun hi => by have := hF _ hi; omega
  have s0 : W0.cell? ⟨w.heap.size, 0, none⟩ = some (.int .i64 kd) := cell_of_row W0 _ 0 _ _ _ hr0
  have s1 : W0.cell? ⟨w.heap.size, 1, none⟩ = some (.int .i64 x) := cell_of_row W0 _ 1 _ _ _ hr0
  have s2 : W0.cell? ⟨w.heap.size, 2, none⟩ = some (.int .i64 n) := cell_of_row W0 _ 2 _ _ _ hr0
  have s4 : W0.cell? ⟨w.heap.size, 4, none⟩ = some (.slice A2 kn kc) := cell_of_row W0 _ 4 _ _ _ hr0

  have hfin : ∀ (d' : Dv) (r' : Rv) (w1 w2 : World), Dleft W0 B g bs bl v (M + 16) d' w1 → Rdl w1 B q vs vl (M + 16) r' w2 → Pair w2 B g q (fun i => (Foot g bs bl v i ∨ Rfoot q vs vl i) ∨ w.heap.size ≤ i) (M + 16) d' ∧ Keeps (fun i => Foot g bs bl v i ∨ Rfoot q vs vl i) w w2 := fun d' r' w1 w2 hD hR => by
    obtain ⟨hP, hKK⟩ := pair_both hD0 hR0 hdj hD hR
    exact ⟨hP.mono (Nat.le_refl _) (fun i hi => hi.imp id (fun h1 => Nat.le_trans hg0.size h1)), ((Keeps.refl _ _).grown hg0 (fun k e => by cases e)).trans hKK (fun i hi => .inl hi)⟩
  have HW0 := Lib.hid hW0
  have HFIN := Lib.hid hfin
  have e0 : ((kd == 0) : Bool) = false := by simpa using h0
  have e1 : ((kd == 1) : Bool) = false := by simpa using h1
  have e2 : ((kd == 2) : Bool) = false := by simpa using h2
  have e3 : ((kd == 3) : Bool) = false := by simpa using h3
  have e4 : ((kd == 4) : Bool) = false := by simpa using h4
  have HD0 := Lib.hid (dl_same (M := M + 16) hD0 (by omega) (by omega))
  have HR0 := Lib.hid (rdl_same (M := M + 16) hR0 (by omega) (by omega))
  clear h0 h1 h2 h3 h4
  clear hD0 hR0 hW0 hg0 hdj hF h hr hk hdo hs hrd hM hr0 hfin
  go_enter Try.func11, Try.ntmps11
  go_wp2
  rw [← HW0.out]
  go_ret
  exact ⟨⟨_, rfl⟩, HFIN.out _ _ _ _ HD0.out HR0.out⟩

end Go.Proofs.Ytdmcbojncgdccaa
