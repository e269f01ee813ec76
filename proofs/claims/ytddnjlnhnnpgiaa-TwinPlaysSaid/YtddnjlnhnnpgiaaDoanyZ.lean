/- A call, both ways: Do of a read. A call, both ways, whatever it is. -/
import Derived.Test.YtddnjlnhnnpgiaaDocZ
namespace Go.Proofs.Ytddnjlnhnnpgiaa
set_option maxRecDepth 20000
open Go.RowKit

set_option maxHeartbeats 4000000 in
set_option maxRecDepth 8000 in
theorem do_read {w : World} {B g q bs bl k M : Nat} {v vs vl : Value} {d : Dv} {r : Rv} (h : Dev w B g bs bl v k d) (hk : k + d.ws.length ≤ M) (hdo : d.done ≤ M) (hr : Rdev w B q vs vl r) (hs : r.safe.length + r.loose.length ≤ M) (hrd : r.done ≤ M) (hM : M ≤ 100000) (hdj : ∀ i, Foot g bs bl v i → ¬ Rfoot q vs vl i)
    (kd x n : Int) (A A2 : Option Addr) (bn bc kn kc : Nat) (hkd : kd = 1) (hn : Key n) :
    Calls Try.prog 16 #[.pointer (some ⟨g, 0, none⟩), .pointer (some ⟨q, 0, none⟩), .agg #[.int .i64 kd, .int .i64 x, .int .i64 n, .slice A bn bc, .slice A2 kn kc]] w fun e w' => (∃ b, e = .returned (.bool b)) ∧ Pair w' B g q (fun i => (Foot g bs bl v i ∨ Rfoot q vs vl i) ∨ w.heap.size ≤ i) (M + 16) (d) ∧ Keeps (fun i => Foot g bs bl v i ∨ Rfoot q vs vl i) w w' := by
  obtain ⟨W0, hW0⟩ : ∃ W0, W0 = w.alloc (.cells #[.int .i64 kd, .int .i64 x, .int .i64 n, .slice A bn bc, .slice A2 kn kc] 41) := ⟨_, rfl⟩
  have hr0 : W0.heap[w.heap.size]? = some (.cells #[.int .i64 kd, .int .i64 x, .int .i64 n, .slice A bn bc, .slice A2 kn kc] 41 (0, 0)) := by rw [hW0]; exact heap_alloc_new w _
  have hg0 : w.grownBy W0 none := by rw [hW0]; exact World.grownBy_alloc _ _ _
  have hD0 := h.new hg0
  have hR0 := hr.new hg0
  have hF : ∀ i, (Foot g bs bl v i ∨ Rfoot q vs vl i) → i < w.heap.size := fun i hi => by
    rcases hi with hi | hi
    · exact (h.foot_lt hi).2
    · exact (hr.foot_lt hi).2
  have hF0 : ¬ (Foot g bs bl v w.heap.size ∨ Rfoot q vs vl w.heap.size) := fun hi => by have := hF _ hi; omega
  have s0 : W0.cell? ⟨w.heap.size, 0, none⟩ = some (.int .i64 kd) := cell_of_row W0 _ 0 _ _ _ hr0
  have s1 : W0.cell? ⟨w.heap.size, 1, none⟩ = some (.int .i64 x) := cell_of_row W0 _ 1 _ _ _ hr0
  have s2 : W0.cell? ⟨w.heap.size, 2, none⟩ = some (.int .i64 n) := cell_of_row W0 _ 2 _ _ _ hr0
  have s4 : W0.cell? ⟨w.heap.size, 4, none⟩ = some (.slice A2 kn kc) := cell_of_row W0 _ 4 _ _ _ hr0

  have hfin : ∀ (d' : Dv) (r' : Rv) (w1 w2 : World), Dleft W0 B g bs bl v (M + 16) d' w1 → Rdl w1 B q vs vl (M + 16) r' w2 → Pair w2 B g q (fun i => (Foot g bs bl v i ∨ Rfoot q vs vl i) ∨ w.heap.size ≤ i) (M + 16) d' ∧ Keeps (fun i => Foot g bs bl v i ∨ Rfoot q vs vl i) w w2 := fun d' r' w1 w2 hD hR => by
    obtain ⟨hP, hKK⟩ := pair_both hD0 hR0 hdj hD hR
    exact ⟨hP.mono (Nat.le_refl _) (fun i hi => hi.imp id (fun h1 => Nat.le_trans hg0.size h1)), ((Keeps.refl _ _).grown hg0 (fun k e => by cases e)).trans hKK (fun i hi => .inl hi)⟩
  have HW0 := Lib.hid hW0
  have HFIN := Lib.hid hfin
  subst hkd
  have HDR := Lib.hid (fun (W : World) (hb : Below W0.heap.size W0 W) => read_all (hD0.below hb) x n hn)
  have HRR := Lib.hid (fun (W : World) (hb : Below W0.heap.size W0 W) => rread_all (hR0.below hb) (by omega) x n)
  have HKD := Lib.hid (dl_same (M := M + 16) hD0 (by omega) (by omega))
  have HKR := Lib.hid (rdl_same (M := M + 16) hR0 (by omega) (by omega))
  have HDB := Lib.hid (fun (W : World) (hb : Below W0.heap.size W0 W) => dl_same (M := M + 16) (hD0.below hb) (by omega) (by omega))
  have HRB := Lib.hid (fun (W : World) (hb : Below W0.heap.size W0 W) => rdl_same (M := M + 16) (hR0.below hb) (by omega) (by omega))
  have c0 := hR0.c0
  have hrn : (r.n : Int) ≤ 65536 := by have := hR0.ok.n; omega
  have hgrow : ∀ W, Below W0.heap.size W0 W → Pair W B g q (fun i => (Foot g bs bl v i ∨ Rfoot q vs vl i) ∨ w.heap.size ≤ i) (M + 16) d ∧ Keeps (fun i => Foot g bs bl v i ∨ Rfoot q vs vl i) w W := fun W hb => by
    refine ⟨⟨bs, bl, v, k, vs, vl, r, hD0.below hb, by omega, by omega, hR0.below hb, by omega, by omega, hdj, fun i hi => .inl hi⟩, ((Keeps.refl _ _).grown hg0 (fun k e => by cases e)).trans (Keeps.of_below (F := fun _ => False) hb) (fun i hi => hi.elim)⟩
  have HGR := Lib.hid hgrow
  clear hgrow hn
  have hfin : ∀ (d' : Dv) (r' : Rv) (w1 w2 : World), Dleft W0 B g bs bl v (M + 16) d' w1 → Rdl w1 B q vs vl (M + 16) r' w2 → Pair w2 B g q (fun i => (Foot g bs bl v i ∨ Rfoot q vs vl i) ∨ w.heap.size ≤ i) (M + 16) d' ∧ Keeps (fun i => Foot g bs bl v i ∨ Rfoot q vs vl i) w w2 := fun d' r' w1 w2 hD hR => by
    obtain ⟨hP, hKK⟩ := pair_both hD0 hR0 hdj hD hR
    exact ⟨hP.mono (Nat.le_refl _) (fun i hi => hi.imp id (fun h1 => Nat.le_trans hg0.size h1)), ((Keeps.refl _ _).grown hg0 (fun k e => by cases e)).trans hKK (fun i hi => .inl hi)⟩
  have HW0 := Lib.hid hW0
  clear hD0 hR0 hW0 hg0 hdj hF h hr hk hdo hs hrd hM hr0 hfin
  by_cases h1 : 100 < n
  · have b1 : decide (100 < n) = true := by simpa using h1
    by_cases h2 : n ≤ (r.n : Int)
    · have b2 : decide (n ≤ (r.n : Int)) = true := by simpa using h2
      go_enter Try.func16, Try.ntmps16
      go_wp2
      rw [← HW0.out]
      go_quiet (fail)
      have hbq : Below W0.heap.size W0 (W0.drewN nq) := ⟨rfl, rfl, rfl, Nat.le_refl _, fun _ _ => rfl⟩
      have t1 := (hbq.cell (p := ⟨w.heap.size, 1, none⟩) (block_lt_of_cell s1)).trans s1
      have t2 := (hbq.cell (p := ⟨w.heap.size, 2, none⟩) (block_lt_of_cell s2)).trans s2
      have HBQ := Lib.hid hbq
      clear hbq
      generalize W0.drewN nq = W1 at *
      go_wp2
      go_ret
      exact ⟨⟨_, rfl⟩, HGR.out _ HBQ.out⟩
    · have b2 : decide (n ≤ (r.n : Int)) = false := by simpa using h2
      go_enter Try.func16, Try.ntmps16
      go_wp2
      rw [← HW0.out]
      go_quiet (fail)
      have hbq : Below W0.heap.size W0 (W0.drewN nq) := ⟨rfl, rfl, rfl, Nat.le_refl _, fun _ _ => rfl⟩
      have t1 := (hbq.cell (p := ⟨w.heap.size, 1, none⟩) (block_lt_of_cell s1)).trans s1
      have t2 := (hbq.cell (p := ⟨w.heap.size, 2, none⟩) (block_lt_of_cell s2)).trans s2
      have HBQ := Lib.hid hbq
      clear hbq
      generalize W0.drewN nq = W1 at *
      go_wp2_with (first
        | (go_at_call 24; refine (HDR.out _ HBQ.out).mono ?_; rintro e w5 ⟨A5, n5, c5, l5, E5, rfl, hr5, hb5⟩
           have hb05 : Below W0.heap.size W0 w5 := HBQ.out.trans (hb5.mono HBQ.out.size)
           have u1 := (hb5.cell (p := ⟨w.heap.size, 1, none⟩) (block_lt_of_cell t1)).trans t1
           have u2 := (hb5.cell (p := ⟨w.heap.size, 2, none⟩) (block_lt_of_cell t2)).trans t2
           have H05 := Lib.hid hb05
           have HR5 := Lib.hid hr5
           clear hb05 hb5 hr5)
        | (go_at_call 28; refine (HRR.out _ H05.out).mono ?_; rintro e w6 ⟨A6, n6, c6, l6, E6, rfl, hr6, hb6⟩
           have hb06 : Below W0.heap.size W0 w6 := H05.out.trans (hb6.mono H05.out.size)
           have hr56 := (HR5.out.below hb6)
           have H06 := Lib.hid hb06
           have HR6 := Lib.hid hr6
           have HR56 := Lib.hid hr56
           clear hb06 hb6 hr6 hr56)
        | (refine wpL_str rfl (.tmp 60) _ _ rfl Try.underlying38 Try.underlying5 Try.underlying9 rfl HR56.out ?_)
        | (refine wpL_str rfl (.tmp 62) _ _ rfl Try.underlying38 Try.underlying5 Try.underlying9 rfl HR6.out ?_)
        | fail)
      all_goals (go_ret; exact ⟨⟨_, rfl⟩, HGR.out _ H06.out⟩)
  · have b1 : decide (100 < n) = false := by simpa using h1
    go_enter Try.func16, Try.ntmps16
    go_wp2
    rw [← HW0.out]
    go_quiet (fail)
    have hbq : Below W0.heap.size W0 (W0.drewN nq) := ⟨rfl, rfl, rfl, Nat.le_refl _, fun _ _ => rfl⟩
    have t1 := (hbq.cell (p := ⟨w.heap.size, 1, none⟩) (block_lt_of_cell s1)).trans s1
    have t2 := (hbq.cell (p := ⟨w.heap.size, 2, none⟩) (block_lt_of_cell s2)).trans s2
    have HBQ := Lib.hid hbq
    clear hbq
    generalize W0.drewN nq = W1 at *
    go_wp2_with (first
      | (go_at_call 24; refine (HDR.out _ HBQ.out).mono ?_; rintro e w5 ⟨A5, n5, c5, l5, E5, rfl, hr5, hb5⟩
         have hb05 : Below W0.heap.size W0 w5 := HBQ.out.trans (hb5.mono HBQ.out.size)
         have u1 := (hb5.cell (p := ⟨w.heap.size, 1, none⟩) (block_lt_of_cell t1)).trans t1
         have u2 := (hb5.cell (p := ⟨w.heap.size, 2, none⟩) (block_lt_of_cell t2)).trans t2
         have H05 := Lib.hid hb05
         have HR5 := Lib.hid hr5
         clear hb05 hb5 hr5)
      | (go_at_call 28; refine (HRR.out _ H05.out).mono ?_; rintro e w6 ⟨A6, n6, c6, l6, E6, rfl, hr6, hb6⟩
         have hb06 : Below W0.heap.size W0 w6 := H05.out.trans (hb6.mono H05.out.size)
         have hr56 := (HR5.out.below hb6)
         have H06 := Lib.hid hb06
         have HR6 := Lib.hid hr6
         have HR56 := Lib.hid hr56
         clear hb06 hb6 hr6 hr56)
      | (refine wpL_str rfl (.tmp 60) _ _ rfl Try.underlying38 Try.underlying5 Try.underlying9 rfl HR56.out ?_)
      | (refine wpL_str rfl (.tmp 62) _ _ rfl Try.underlying38 Try.underlying5 Try.underlying9 rfl HR6.out ?_)
      | fail)
    all_goals (go_ret; exact ⟨⟨_, rfl⟩, HGR.out _ H06.out⟩)

end Go.Proofs.Ytddnjlnhnnpgiaa

namespace Go.Proofs.Ytddnjlnhnnpgiaa
set_option maxRecDepth 20000
open Go.RowKit

theorem do_any {w : World} {B g q M : Nat} {F : Nat → Prop} {d : Dv} (hP : Pair w B g q F M d) (hM : M ≤ 100000) (o : Opd) (ho : o.Reads w) (hbn : o.bn ≤ 1000) (hkn : o.kn ≤ 1000) (hsep : 0 < o.bn → ∀ b i, o.A = some ⟨b, i, none⟩ → ¬ F b) (hsep2 : 0 < o.kn → ∀ b i, o.A2 = some ⟨b, i, none⟩ → ¬ F b) :
    Calls Try.prog 16 #[.pointer (some ⟨g, 0, none⟩), .pointer (some ⟨q, 0, none⟩), .agg o.cells] w fun e w' => (∃ b, e = .returned (.bool b)) ∧ Pair w' B g q (fun i => F i ∨ w.heap.size ≤ i) (M + 16) (d.op o) ∧ Keeps F w w' := by
  obtain ⟨bs, bl, v, k, vs, vl, r, hD, hk, hdo, hR, hs, hrd, hdj, hF⟩ := hP
  obtain ⟨hl, hl2, wk, wa, wn, _⟩ := ho
  have hkey : Key o.n := by
    unfold Key
    simp [Lit.wf, IntKind.min, IntKind.max, IntKind.signed, IntKind.bits] at wn
    omega
  have wide : ∀ {d' : Dv} {e : Ending} {w' : World}, ((∃ b, e = .returned (.bool b)) ∧ Pair w' B g q (fun i => (Foot g bs bl v i ∨ Rfoot q vs vl i) ∨ w.heap.size ≤ i) (M + 16) d' ∧ Keeps (fun i => Foot g bs bl v i ∨ Rfoot q vs vl i) w w') → ((∃ b, e = .returned (.bool b)) ∧ Pair w' B g q (fun i => F i ∨ w.heap.size ≤ i) (M + 16) d' ∧ Keeps F w w') := fun h =>
    ⟨h.1, h.2.1.mono (Nat.le_refl _) (fun i hi => hi.imp (hF i) id), h.2.2.wide hF⟩
  unfold Dv.op
  obtain ⟨kd, x, n, A, bn, bc, l, A2, kn, kc, ks⟩ := o
  dsimp only at *
  by_cases h0 : kd = 0
  · subst h0
    rw [if_pos rfl]
    exact (do_write hD hk hdo hR hs hrd hM hdj x n A A2 bn bc kn kc l hl hbn (fun h0 b i e hf => hsep h0 b i e (hF b hf))).mono fun e w' h => wide h
  · rw [if_neg h0]
    by_cases h1 : kd = 1
    · rw [if_neg (by omega), if_neg (by omega), if_neg (by omega)]
      exact (do_read hD hk hdo hR hs hrd hM hdj kd x n A A2 bn bc kn kc h1 hkey).mono fun e w' h => wide h
    · by_cases h2 : kd = 2
      · rw [if_pos h2]
        exact (do_flush hD hk hdo hR hs hrd hM hdj kd x n A A2 bn bc kn kc h2).mono fun e w' h => wide h
      · rw [if_neg h2]
        by_cases h3 : kd = 3
        · rw [if_pos h3]
          exact (do_fuse hD hk hdo hR hs hrd hM hdj kd x n A A2 bn bc kn kc h3 hkey).mono fun e w' h => wide h
        · rw [if_neg h3]
          by_cases h4 : kd = 4
          · rw [if_pos h4]
            exact (do_crash hD hk hdo hR hs hrd hM hdj kd x n A A2 bn bc kn kc h4 ks hl2 hkn (fun h0 b i e hf => hsep2 h0 b i e (hF b hf))).mono fun e w' h => wide h
          · rw [if_neg h4]
            exact (do_else hD hk hdo hR hs hrd hM hdj kd x n A A2 bn bc kn kc h0 h1 h2 h3 h4).mono fun e w' h => wide h

/-- Calls in a row of the caller's. -/
def opsv (os : List Opd) : List Value := os.flatMap (fun o => o.cells.toList)
theorem opsv_get (os : List Opd) (i : Nat) (o : Opd) (hi : os[i]? = some o) (j : Nat) (u : Value) (hj : o.cells[j]? = some u) : (opsv os)[i * 5 + j]? = some u := by
  induction os generalizing i with
  | nil => simp at hi
  | cons p os ih =>
    have e : opsv (p :: os) = p.cells.toList ++ opsv os := rfl
    have hl : p.cells.toList.length = 5 := rfl
    rw [e]
    cases i with
    | zero =>
      simp only [List.getElem?_cons_zero, Option.some.injEq] at hi
      subst hi
      have hj2 : j < p.cells.toList.length := by have := (Array.getElem?_eq_some_iff.1 hj).1; simpa using this
      rw [Nat.zero_mul, Nat.zero_add, List.getElem?_append_left hj2]
      simpa using hj
    | succ i =>
      simp only [List.getElem?_cons_succ] at hi
      rw [List.getElem?_append_right (by omega), hl, show (i + 1) * 5 + j - 5 = i * 5 + j from by omega]
      exact ih i hi
structure Ops (w : World) (A : Option Addr) (n c : Nat) (os : List Opd) : Prop where
  rd : Rd w w.heap.size 5 A n c (opsv os)
  len : os.length = n
  reads : ∀ o ∈ os, o.Reads w
/-- As many as are looked at, and no greater ones. -/
def Fits (os : List Opd) : Prop := os.length ≤ 60 ∧ ∀ o ∈ os, o.bn ≤ 1000 ∧ o.kn ≤ 200

def LightAns (w : World) (os : List Opd) (e : Ending) (w' : World) : Prop := ∃ b, e = .returned (.bool b) ∧ (b = true → Fits os) ∧ Below w.heap.size w w'
set_option maxHeartbeats 4000000 in
set_option maxRecDepth 8000 in
theorem light_any {w : World} {A : Option Addr} {n c : Nat} {os : List Opd} (h : Ops w A n c os) :
    Calls Try.prog 12 #[.slice A n c] w (LightAns w os) := by
  have hcap := h.rd.2.1
  have hnc := h.rd.1
  have hnm : (n : Int) ≤ 9223372036854775807 := by unfold maxLen at hcap; omega
  have HH := Lib.hid h
  clear h hcap hnc
  go_enter Try.func12, Try.ntmps12
  go_wp2
  go_loopw [3, 8] (fun sr ir wr => ∃ (i : Nat) (s : Int), i ≤ n ∧ ir = .int .i64 (i : Int) ∧ sr = .int .i64 s ∧ (∀ j o, j < i → os[j]? = some o → o.bn ≤ 1000 ∧ o.kn ≤ 200) ∧ Below w.heap.size w wr) (fun _ ir _ => n - (intOf ir).toNat)
  case atStart => exact ⟨0, 0, Nat.zero_le _, rfl, rfl, fun j o hj => absurd hj (Nat.not_lt_zero _), Below.refl _ _⟩
  case round =>
    obtain ⟨i, s, hi, rfl, rfl, hall, hb⟩ := hrel
    have HA := Lib.hid hall
    have HB := Lib.hid hb
    clear hall hb
    by_cases hlt : i < n
    · obtain ⟨p, hp⟩ : ∃ p, os[i]? = some p := ⟨_, List.getElem?_eq_getElem (by have := HH.out.len; omega)⟩
      obtain ⟨b, o, rfl, hbb, hcc⟩ := HH.out.rd.2.2.2 (by omega)
      obtain ⟨kd, x, n1, A1, bn, bc, l, A2, kn, kc, ks⟩ := p
      have hc := fun j u (hu : (Opd.cells ⟨kd, x, n1, A1, bn, bc, l, A2, kn, kc, ks⟩)[j]? = some u) => (HB.out.cell (p := ⟨b, o + (i * 5 + j), none⟩) hbb).trans (hcc _ _ (opsv_get os i _ hp j u hu))
      have k0 : wr.cell? ⟨b, o + i * 5, none⟩ = some (.int .i64 kd) := hc 0 _ rfl
      have k1 : wr.cell? ⟨b, o + i * 5 + 1, none⟩ = some (.int .i64 x) := hc 1 _ rfl
      have k2 : wr.cell? ⟨b, o + i * 5 + 2, none⟩ = some (.int .i64 n1) := hc 2 _ rfl
      have k3 : wr.cell? ⟨b, o + i * 5 + 3, none⟩ = some (.slice A1 bn bc) := hc 3 _ rfl
      have k4 : wr.cell? ⟨b, o + i * 5 + 4, none⟩ = some (.slice A2 kn kc) := hc 4 _ rfl
      have hlti : (i : Int) < (n : Int) := by omega
      have hin : (i : Int) ≤ 9223372036854775806 := by omega
      have HP := Lib.hid hp
      clear hc hcc hp
      have hal : ∀ cs, Below w.heap.size w (wr.alloc cs) := fun cs => HB.out.alloc HB.out.size _
      have HAL := Lib.hid hal
      clear hal
      by_cases hA : bn ≤ 1000
      · by_cases hB : kn ≤ 200
        · have a1 : decide (1000 < bn) = false := by simpa using hA
          have a2 : decide (200 < kn) = false := by simpa using hB
          have a3 : ¬ (1000 : Int) < (bn : Int) := by omega
          have a4 : ¬ (200 : Int) < (kn : Int) := by omega
          have HAB := Lib.hid (And.intro hA hB)
          clear hA hB
          go_wp2
          go_roundw
          case rel => exact ⟨i + 1, _, by omega, by go_num, rfl, fun j o hj ho => by
            rcases Nat.lt_or_ge j i with h1 | h1
            · exact HA.out j o h1 ho
            · obtain rfl : j = i := by omega
              rw [HP.out] at ho
              cases ho
              exact HAB.out, HAL.out _⟩
          case measure => simp [intOf]; omega
        · have a1 : decide (1000 < bn) = false := by simpa using hA
          have a2 : decide (200 < kn) = true := by simpa using hB
          have a3 : ¬ (1000 : Int) < (bn : Int) := by omega
          have a4 : (200 : Int) < (kn : Int) := by omega
          clear hA hB
          go_wp2
          go_ret
          exact ⟨_, rfl, (fun h => by cases h), HAL.out _⟩
      · have a1 : decide (1000 < bn) = true := by simpa using hA
        have a3 : (1000 : Int) < (bn : Int) := by omega
        clear hA
        go_wp2
        go_ret
        exact ⟨_, rfl, (fun h => by cases h), HAL.out _⟩
    · obtain rfl : i = n := by omega
      by_cases h60 : i ≤ 60
      · have hf : Fits os := ⟨by have := HH.out.len; omega, fun o ho => by
          obtain ⟨j, hj⟩ := List.getElem?_of_mem ho
          exact HA.out j o (by have h1 := (List.getElem?_eq_some_iff.1 hj).1; have := HH.out.len; omega) hj⟩
        have h60i : (i : Int) ≤ 60 := by omega
        have HF := Lib.hid hf
        clear hf
        by_cases hs : s ≤ 6000
        · have d1 : decide (s ≤ 6000) = true := by simpa using hs
          go_wp2
          go_ret
          exact ⟨_, rfl, fun _ => HF.out, HB.out⟩
        · have d1 : decide (s ≤ 6000) = false := by simpa using hs
          go_wp2
          go_ret
          exact ⟨_, rfl, fun _ => HF.out, HB.out⟩
      · have h60i : ¬ (i : Int) ≤ 60 := by omega
        go_wp2
        go_ret
        exact ⟨_, rfl, (fun h => by cases h), HB.out⟩

end Go.Proofs.Ytddnjlnhnnpgiaa
