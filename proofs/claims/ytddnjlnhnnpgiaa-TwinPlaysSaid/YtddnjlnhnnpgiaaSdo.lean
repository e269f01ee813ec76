/- Calls of a device and of the reference's, beside each other: what both tell is the same. -/
import Derived.Test.YtddnjlnhnnpgiaaSim
import Derived.Test.YtddnjlnhnnpgiaaDoanyZ
namespace Go.Proofs.Ytddnjlnhnnpgiaa
set_option maxRecDepth 20000
open Go.RowKit

def Dv.wroteE (d : Dv) (x : Int) (l : List UInt8) : Int := if d.down = true then 50 else if withinB d.n x (((l.length : Int) + 63) / 64) = true then (d.write x l ((l.length + 63) / 64)).2 else 30
def Rv.wroteE (r : Rv) (x : Int) (l : List UInt8) : Int := if r.down = true then 50 else if withinB r.n x (((l.length : Int) + 63) / 64) = true then (r.write x l ((l.length + 63) / 64)).2 else 30
theorem Sim.wrote {d : Dv} {r : Rv} (h : Sim d r) (x : Int) (l : List UInt8) : Sim (d.wrote x l) (r.wrote x l) ∧ d.wroteE x l = r.wroteE x l := by
  unfold Dv.wrote Rv.wrote Dv.wroteE Rv.wroteE
  rw [← h.down, ← h.n]
  cases hd : d.down with
  | true => rw [if_pos rfl, if_pos rfl, if_pos rfl, if_pos rfl]; exact ⟨h, rfl⟩
  | false =>
    have hw := h.write hd x l ((l.length + 63) / 64)
    have e : ¬ (false = true) := by decide
    simp only [if_neg e]
    split
    · exact ⟨hw.1, hw.2.1⟩
    · exact ⟨h, rfl⟩
theorem write_exact {w : World} {B g bs bl k M : Nat} {v : Value} {d : Dv} (h : Dev w B g bs bl v k d) (hk : k + d.ws.length ≤ M) (hdo : d.done ≤ M) (hM : M ≤ 100000) (x : Int) (A : Option Addr) (n c : Nat) (l : List UInt8) (hl : Rd w w.heap.size 1 A n c (u8s l)) (hsep : 0 < n → ∀ b o, A = some ⟨b, o, none⟩ → ¬ Foot g bs bl v b) (hn : n ≤ 4096) :
    Calls Try.prog 38 #[.pointer (some ⟨g, 0, none⟩), .int .i64 x, .slice A n c] w fun e w' => e = .returned (.int .i64 (d.wroteE x l)) ∧ Dleft w B g bs bl v (M + 64) (d.wrote x l) w' := by
  have hln : l.length = n := by have := hl.len; rwa [u8s_len] at this
  have hdn := h.ok.n
  unfold Dv.wrote Dv.wroteE
  rw [hln]
  cases hd : d.down with
  | true =>
    simp only [if_true]
    refine (write_down g x A n c w (by rw [← hd]; exact h.c4)).mono ?_
    rintro e w' ⟨rfl, hb⟩
    exact ⟨rfl, bs, bl, v, k, h.below hb, by omega, by omega, Keeps.of_below hb, fun i hi => .inl hi⟩
  | false =>
    simp only [Bool.false_eq_true, if_false]
    cases hw : withinB d.n x (((n : Int) + 63) / 64) with
    | false =>
      simp only [Bool.false_eq_true, if_false]
      refine (write_out g d.n x A n c w h.c0 (by rw [← hd]; exact h.c4) hdn (by omega) hw).mono ?_
      rintro e w' ⟨rfl, hb⟩
      exact ⟨rfl, bs, bl, v, k, h.below hb, by omega, by omega, Keeps.of_below hb, fun i hi => .inl hi⟩
    | true =>
      simp only [if_true]
      unfold withinB at hw
      simp only [decide_eq_true_eq] at hw
      refine (write_good h hd x A n c l hl hsep (by omega) (by omega) hw.1 (by omega) (by omega)).mono ?_
      rintro e w' ⟨rfl, v', hD, hK, hv⟩
      have hr := Dv.write_rest d x l ((n + 63) / 64)
      refine ⟨rfl, bs, bl, v', k, hD, by omega, by omega, hK, fun i hi => ?_⟩
      rcases hi with hi | hi | hi | hi
      · exact .inl (.inl hi)
      · exact .inl (.inr (.inl hi))
      · exact .inl (.inr (.inr (.inl hi)))
      · rcases hv i hi with h1 | h1
        · exact .inl (.inr (.inr (.inr h1)))
        · exact .inr h1
theorem rwrite_exact {w : World} {B q M : Nat} {vs vl : Value} {r : Rv} (h : Rdev w B q vs vl r) (hs : r.safe.length + r.loose.length ≤ M) (hdo : r.done ≤ M) (hM : M ≤ 100000) (x : Int) (A : Option Addr) (n c : Nat) (l : List UInt8) (hl : Rd w w.heap.size 1 A n c (u8s l)) (hsep : 0 < n → ∀ b o, A = some ⟨b, o, none⟩ → ¬ Rfoot q vs vl b) (hn : n ≤ 4096) :
    Calls Try.prog 36 #[.pointer (some ⟨q, 0, none⟩), .int .i64 x, .slice A n c] w fun e w' => e = .returned (.int .i64 (r.wroteE x l)) ∧ Rdl w B q vs vl (M + 64) (r.wrote x l) w' := by
  have hln : l.length = n := by have := hl.len; rwa [u8s_len] at this
  have hrn := h.ok.n
  unfold Rv.wrote Rv.wroteE
  rw [hln]
  cases hd : r.down with
  | true =>
    simp only [if_true]
    refine (rwrite_down (q := q) x A n c (by rw [← hd]; exact h.c3)).mono ?_
    rintro e w' ⟨rfl, rfl⟩
    exact ⟨rfl, vs, vl, h, by omega, by omega, Keeps.refl _ _, fun i hi => .inl hi⟩
  | false =>
    simp only [Bool.false_eq_true, if_false]
    cases hw : withinB r.n x (((n : Int) + 63) / 64) with
    | false =>
      simp only [Bool.false_eq_true, if_false]
      refine (rwrite_out (q := q) x A n c h.c0 (by rw [← hd]; exact h.c3) hrn (by omega) hw).mono ?_
      rintro e w' ⟨rfl, rfl⟩
      exact ⟨rfl, vs, vl, h, by omega, by omega, Keeps.refl _ _, fun i hi => .inl hi⟩
    | true =>
      simp only [if_true]
      unfold withinB at hw
      simp only [decide_eq_true_eq] at hw
      refine (rwrite_good h hd x A n c ((n + 63) / 64) l rfl hl hsep (by omega) (by omega) hw.1 (by omega) (by omega)).mono ?_
      rintro e w' ⟨rfl, vs', vl', hD, hK, hv⟩
      have hr := Rv.write_rest r x l ((n + 63) / 64)
      refine ⟨rfl, vs', vl', hD, ?_, by omega, hK, hv⟩
      rw [hr.2.2.2]
      omega

def Dv.gotE (d : Dv) (x m : Int) : Int := if d.down = true then 50 else if withinB d.n x m = true then 0 else 30
def Dv.gotB (d : Dv) (x m : Int) : List UInt8 := if d.down = true then [] else if withinB d.n x m = true then d.bytes x m.toNat else []
/-- What is read, just so. -/
def Gets (w : World) (l : List UInt8) (E : Int) (e : Ending) (w' : World) : Prop := ∃ (A : Option Addr) (n c : Nat), e = .returned (.tuple #[.slice A n c, .int .i64 E]) ∧ Rd w' w'.heap.size 1 A n c (u8s l) ∧ Below w.heap.size w w'
theorem read_exact {w : World} {B g bs bl k : Nat} {v : Value} {d : Dv} (h : Dev w B g bs bl v k d) (x m : Int) (hm : Key m) :
    Calls Try.prog 24 #[.pointer (some ⟨g, 0, none⟩), .int .i64 x, .int .i64 m] w (Gets w (d.gotB x m) (d.gotE x m)) := by
  have hdn := h.ok.n
  unfold Dv.gotB Dv.gotE
  cases hd : d.down with
  | true =>
    simp only [if_true]
    refine (read_down g x m w (by rw [← hd]; exact h.c4)).mono ?_
    rintro e w' ⟨rfl, rfl⟩
    exact ⟨none, 0, 0, rfl, Rd.nil_, Below.refl _ _⟩
  | false =>
    simp only [Bool.false_eq_true, if_false]
    cases hw : withinB d.n x m with
    | false =>
      simp only [Bool.false_eq_true, if_false]
      refine (read_out g d.n x m w h.c0 (by rw [← hd]; exact h.c4) hdn hm.2 hw).mono ?_
      rintro e w' ⟨rfl, rfl⟩
      exact ⟨none, 0, 0, rfl, Rd.nil_, Below.refl _ _⟩
    | true =>
      simp only [if_true]
      unfold withinB at hw
      simp only [decide_eq_true_eq] at hw
      obtain ⟨m', rfl⟩ : ∃ m' : Nat, m = (m' : Int) := ⟨m.toNat, by omega⟩
      rw [Int.toNat_natCast]
      refine (read_good h hd x m' hw.1 (by omega)).mono ?_
      rintro e w' ⟨v', rfl, hown, hb⟩
      obtain ⟨A, c, rfl, hr⟩ := rd_owns hown
      exact ⟨A, _, c, rfl, hr, hb⟩
theorem rread_exact {w : World} {B q : Nat} {vs vl : Value} {r : Rv} {d : Dv} (hsim : Sim d r) (h : Rdev w B q vs vl r) (hs : r.safe.length + r.loose.length ≤ 1000000) (x m : Int) :
    Calls Try.prog 28 #[.pointer (some ⟨q, 0, none⟩), .int .i64 x, .int .i64 m] w (Gets w (d.gotB x m) (d.gotE x m)) := by
  have hrn := h.ok.n
  unfold Dv.gotB Dv.gotE
  rw [hsim.down, hsim.n]
  cases hd : r.down with
  | true =>
    simp only [if_true]
    refine (rread_down (q := q) x m (by rw [← hd]; exact h.c3)).mono ?_
    rintro e w' ⟨rfl, rfl⟩
    exact ⟨none, 0, 0, rfl, Rd.nil_, Below.refl _ _⟩
  | false =>
    simp only [Bool.false_eq_true, if_false]
    cases hw : withinB r.n x m with
    | false =>
      simp only [Bool.false_eq_true, if_false]
      refine (rread_out (q := q) x m h.c0 (by rw [← hd]; exact h.c3) hrn hw).mono ?_
      rintro e w' ⟨rfl, rfl⟩
      exact ⟨none, 0, 0, rfl, Rd.nil_, Below.refl _ _⟩
    | true =>
      simp only [if_true]
      unfold withinB at hw
      simp only [decide_eq_true_eq] at hw
      obtain ⟨m', rfl⟩ : ∃ m' : Nat, m = (m' : Int) := ⟨m.toNat, by omega⟩
      rw [Int.toNat_natCast, hsim.bytes]
      refine (rread_good h hd (by omega) (by omega) x m' hw.1 (by omega)).mono ?_
      rintro e w' ⟨v', rfl, hown, hb⟩
      obtain ⟨A, c, rfl, hr⟩ := rd_owns hown
      exact ⟨A, _, c, rfl, hr, hb⟩

/-- A device and a reference device that stand alike. -/
def PairS (w : World) (B g q : Nat) (F : Nat → Prop) (M : Nat) (d : Dv) : Prop := ∃ bs bl v k vs vl r, Dev w B g bs bl v k d ∧ k + d.ws.length ≤ M ∧ d.done ≤ M ∧ Rdev w B q vs vl r ∧ r.safe.length + r.loose.length ≤ M ∧ r.done ≤ M ∧ (∀ i, Foot g bs bl v i → ¬ Rfoot q vs vl i) ∧ (∀ i, (Foot g bs bl v i ∨ Rfoot q vs vl i) → F i) ∧ Sim d r
theorem PairS.mono {w : World} {B g q M M' : Nat} {F F' : Nat → Prop} {d : Dv} (h : PairS w B g q F M d) (hM : M ≤ M') (hF : ∀ i, F i → F' i) : PairS w B g q F' M' d := by
  obtain ⟨bs, bl, v, k, vs, vl, r, h1, h2, h3, h4, h5, h6, h7, h8, h9⟩ := h
  exact ⟨bs, bl, v, k, vs, vl, r, h1, by omega, by omega, h4, by omega, by omega, h7, fun i hi => hF i (h8 i hi), h9⟩
theorem PairS.keeps {w w' : World} {B g q M : Nat} {F G : Nat → Prop} {d : Dv} (h : PairS w B g q F M d) (kp : Keeps G w w') (hG : ∀ i, G i → ¬ F i) : PairS w' B g q F M d := by
  obtain ⟨bs, bl, v, k, vs, vl, r, h1, h2, h3, h4, h5, h6, h7, h8, h9⟩ := h
  exact ⟨bs, bl, v, k, vs, vl, r, h1.keeps kp (fun i hi hf => hG i hi (h8 i (.inl hf))), h2, h3, h4.keeps kp (fun i hi hf => hG i hi (h8 i (.inr hf))), h5, h6, h7, h8, h9⟩
section
variable {w w1 w2 : World} {B g q bs bl k M : Nat} {v vs vl : Value} {d d' : Dv} {r r' : Rv}
theorem pair_bothS (hsim : Sim d' r') (_ : Dev w B g bs bl v k d) (hr : Rdev w B q vs vl r) (hdj : ∀ i, Foot g bs bl v i → ¬ Rfoot q vs vl i) (hD : Dleft w B g bs bl v M d' w1) (hR : Rdl w1 B q vs vl M r' w2) : PairS w2 B g q (fun i => (Foot g bs bl v i ∨ Rfoot q vs vl i) ∨ w.heap.size ≤ i) M d' ∧ Keeps (fun i => Foot g bs bl v i ∨ Rfoot q vs vl i) w w2 := by
  obtain ⟨bs', bl', v', k', hD1, hk1, hd1, hK1, hf1⟩ := hD
  obtain ⟨vs', vl', hR2, hs2, hd2, hK2, hf2⟩ := hR
  have hz1 := hK1.size
  refine ⟨⟨bs', bl', v', k', vs', vl', r', hD1.keeps hK2 (fun i hi hf => ?_), hk1, hd1, hR2, hs2, hd2, fun i hi hf => ?_, fun i hi => ?_, hsim⟩, (hK1.wide (fun i hi => .inl hi)).trans hK2 (fun i hi => .inl (.inr hi))⟩
  · rcases hf1 i hf with h1 | h1
    · exact hdj i h1 hi
    · have := (hr.foot_lt hi).2
      omega
  · rcases hf2 i hf with h2 | h2
    · rcases hf1 i hi with h1 | h1
      · exact hdj i h1 h2
      · have := (hr.foot_lt h2).2
        omega
    · have := (hD1.foot_lt hi).2
      omega
  · rcases hi with hi | hi
    · rcases hf1 i hi with h1 | h1
      · exact .inl (.inl h1)
      · exact .inr h1
    · rcases hf2 i hi with h2 | h2
      · exact .inl (.inr h2)
      · exact .inr (by omega)
end

set_option maxHeartbeats 4000000 in
set_option maxRecDepth 8000 in
theorem sdo_write {w : World} {B g q bs bl k M : Nat} {v vs vl : Value} {d : Dv} {r : Rv} (hsim : Sim d r) (h : Dev w B g bs bl v k d) (hk : k + d.ws.length ≤ M) (hdo : d.done ≤ M) (hr : Rdev w B q vs vl r) (hs : r.safe.length + r.loose.length ≤ M) (hrd : r.done ≤ M) (hM : M ≤ 100000) (hdj : ∀ i, Foot g bs bl v i → ¬ Rfoot q vs vl i)
    (x n : Int) (A A2 : Option Addr) (bn bc kn kc : Nat) (l : List UInt8) (hl : Rd w w.heap.size 1 A bn bc (u8s l)) (hbn : bn ≤ 1000) (hsep : 0 < bn → ∀ b o, A = some ⟨b, o, none⟩ → ¬ (Foot g bs bl v b ∨ Rfoot q vs vl b)) :
    Calls Try.prog 16 #[.pointer (some ⟨g, 0, none⟩), .pointer (some ⟨q, 0, none⟩), .agg #[.int .i64 0, .int .i64 x, .int .i64 n, .slice A bn bc, .slice A2 kn kc]] w fun e w' => e = .returned (.bool true) ∧ PairS w' B g q (fun i => (Foot g bs bl v i ∨ Rfoot q vs vl i) ∨ w.heap.size ≤ i) (M + 64) (d.wrote x l) ∧ Keeps (fun i => Foot g bs bl v i ∨ Rfoot q vs vl i) w w' := by
  obtain ⟨W0, hW0⟩ : ∃ W0, W0 = w.alloc (.cells #[.int .i64 0, .int .i64 x, .int .i64 n, .slice A bn bc, .slice A2 kn kc] 41) := ⟨_, rfl⟩
  have hr0 : W0.heap[w.heap.size]? = some (.cells #[.int .i64 0, .int .i64 x, .int .i64 n, .slice A bn bc, .slice A2 kn kc] 41 (0, 0)) := by rw [hW0]; exact heap_alloc_new w _
  have hg0 : w.grownBy W0 none := by rw [hW0]; exact World.grownBy_alloc _ _ _
  have hD0 := h.new hg0
  have hR0 := hr.new hg0
  have hl0 : Rd W0 W0.heap.size 1 A bn bc (u8s l) := (hl.keep (fun b o hb => World.cell?_of_block (a := ⟨b, o, none⟩) (hg0.block b hb (fun e => by cases e)))).more hg0.size
  have hF : ∀ i, (Foot g bs bl v i ∨ Rfoot q vs vl i) → i < w.heap.size := fun i hi => by
    rcases hi with hi | hi
    · exact (h.foot_lt hi).2
    · exact (hr.foot_lt hi).2
  have hF0 : ¬ (Foot g bs bl v w.heap.size ∨ Rfoot q vs vl w.heap.size) := fun hi => by have := hF _ hi; omega
  have s1 : W0.cell? ⟨w.heap.size, 1, none⟩ = some (.int .i64 x) := cell_of_row W0 _ 1 _ _ _ hr0
  have s3 : W0.cell? ⟨w.heap.size, 3, none⟩ = some (.slice A bn bc) := cell_of_row W0 _ 3 _ _ _ hr0
  have hsw := hsim.wrote x l
  have HSM := Lib.hid hsw
  have HDW := Lib.hid (fun (W : World) (hb : Below W0.heap.size W0 W) => write_exact (hD0.below hb) hk hdo hM x A bn bc l ((hl0.below hb).more hb.size) (fun h0 b o e hf => hsep h0 b o e (.inl hf)) (by omega))
  have HRW := Lib.hid (fun (W : World) (hR : Rdev W B q vs vl r) (hlW : Rd W W.heap.size 1 A bn bc (u8s l)) => (by have hh := rwrite_exact hR hs hrd hM x A bn bc l hlW (fun h0 b o e hf => hsep h0 b o e (.inr hf)) (by omega); rw [← hsw.2] at hh; exact hh))
  have HD0 := Lib.hid hD0
  have HR0 := Lib.hid hR0
  have HL0 := Lib.hid hl0
  have HW0 := Lib.hid hW0
  have HG0 := Lib.hid hg0
  have HDJ := Lib.hid hdj
  have HSEP := Lib.hid hsep
  have HF := Lib.hid hF
  have hM0 := Lib.hid hM
  generalize d.wroteE x l = E1 at *
  clear hsw hsim hD0 hR0 hl0 hW0 hg0 hdj hsep hF h hr hk hdo hs hrd hM hl hbn hr0
  go_enter Try.func16, Try.ntmps16
  go_wp2
  rw [← HW0.out]
  refine wp_segs [([0, 1, 2, 3, 4, 6, 7, 8, 9, 10], 5), ([], 11)] [12, 13] (fun x => Keeps (fun i => (Foot g bs bl v i ∨ Rfoot q vs vl i)) W0 x) (by kernel_rfl) (by kernel_rfl) (fun d _ _ _ _ h => by cases d <;> exact h) (Keeps.refl _ _).drew ?_
  intro f hf
  have F1 := fun z => (hf z).cell s1 hF0
  have F3 := fun z => (hf z).cell s3 hF0
  simp only [pickI, Option.toList_some, List.cons_append, List.nil_append, List.getElem?_toArray, List.getElem?_cons_succ, List.getElem?_cons_zero]
  repeat (go_big_quiet_step (fail))
  refine wpQuiet_nil ?_
  clear F1 F3 hf f
  refine seg_op (by simp only [List.getElem?_toArray, List.getElem?_cons_succ, List.getElem?_cons_zero]; rfl) fun K hK => ?_
  go_simp
  refine (HDW.out _ (Below.refl _ _).drew).mono ?_
  rintro e w5 ⟨rfl, hD5⟩
  have hD5' : Dleft W0 B g bs bl v (M + 64) (d.wrote x l) w5 := by
    obtain ⟨a1, a2, a3, a4, a5, a6, a7, a8, a9⟩ := hD5
    exact ⟨a1, a2, a3, a4, a5, a6, a7, a8.drew0, a9⟩
  have hR5 := hD5'.rdev HR0.out HDJ.out
  have hK5 : Keeps (Foot g bs bl v) W0 w5 := by obtain ⟨a1, a2, a3, a4, a5, a6, a7, a8, a9⟩ := hD5'; exact a8
  have hl5 : Rd w5 w5.heap.size 1 A bn bc (u8s l) := (HL0.out.stayn (fun hp b o e hb => hK5.block b hb (fun hf => HSEP.out hp b o e (.inl hf)))).more hK5.size
  refine hK.out _ _ (seg_keep (hK5.wide (fun i hi => .inl hi)) ?_)
  clear hK K
  try go_frame
  intro f hf
  refine wpQuiet_nil ?_
  clear hf f
  refine seg_op (by simp only [List.getElem?_toArray, List.getElem?_cons_succ, List.getElem?_cons_zero]; rfl) fun K hK => ?_
  go_simp
  refine (HRW.out _ hR5 hl5).mono ?_
  rintro e w6 ⟨rfl, hR6⟩
  obtain ⟨hP, hKK⟩ := pair_bothS HSM.out.1 HD0.out HR0.out HDJ.out hD5' hR6
  refine hK.out _ _ (seg_keep hKK ?_)
  clear hK K
  try go_frame
  intro f hf
  simp only [pickI, Option.toList_some, List.cons_append, List.nil_append, List.getElem?_toArray, List.getElem?_cons_succ, List.getElem?_cons_zero]
  repeat (go_big_quiet_step (fail))
  refine wpQuiet_nil ?_
  clear hf f
  go_wp2
  go_ret
  refine ⟨rfl, hP.mono (Nat.le_refl _) (fun i hi => hi.imp id (fun h1 => Nat.le_trans HG0.out.size h1)), ((Keeps.refl _ _).grown HG0.out (fun k e => by cases e)).trans hKK (fun i hi => .inl hi)⟩

set_option maxHeartbeats 4000000 in
set_option maxRecDepth 8000 in
theorem sdo_flush {w : World} {B g q bs bl k M : Nat} {v vs vl : Value} {d : Dv} {r : Rv} (hsim : Sim d r) (h : Dev w B g bs bl v k d) (hk : k + d.ws.length ≤ M) (hdo : d.done ≤ M) (hr : Rdev w B q vs vl r) (hs : r.safe.length + r.loose.length ≤ M) (hrd : r.done ≤ M) (hM : M ≤ 100000) (hdj : ∀ i, Foot g bs bl v i → ¬ Rfoot q vs vl i)
    (kd x n : Int) (A A2 : Option Addr) (bn bc kn kc : Nat) (hkd : kd = 2) :
    Calls Try.prog 16 #[.pointer (some ⟨g, 0, none⟩), .pointer (some ⟨q, 0, none⟩), .agg #[.int .i64 kd, .int .i64 x, .int .i64 n, .slice A bn bc, .slice A2 kn kc]] w fun e w' => e = .returned (.bool true) ∧ PairS w' B g q (fun i => (Foot g bs bl v i ∨ Rfoot q vs vl i) ∨ w.heap.size ≤ i) (M + 16) (d.flush.1) ∧ Keeps (fun i => Foot g bs bl v i ∨ Rfoot q vs vl i) w w' := by
  obtain ⟨W0, hW0⟩ : ∃ W0, W0 = w.alloc (.cells #[.int .i64 kd, .int .i64 x, .int .i64 n, .slice A bn bc, .slice A2 kn kc] 41) := ⟨_, rfl⟩
  have hr0 : W0.heap[w.heap.size]? = some (.cells #[.int .i64 kd, .int .i64 x, .int .i64 n, .slice A bn bc, .slice A2 kn kc] 41 (0, 0)) := by rw [hW0]; exact heap_alloc_new w _
  have hg0 : w.grownBy W0 none := by rw [hW0]; exact World.grownBy_alloc _ _ _
  have hD0 := h.new hg0
  have hR0 := hr.new hg0
  have hF : ∀ i, (Foot g bs bl v i ∨ Rfoot q vs vl i) → i < w.heap.size := fun i hi => by
    rcases hi with hi | hi
    · exact (h.foot_lt hi).2
    · exact (hr.foot_lt hi).2
  have hF0 : ¬ (Foot g bs bl v w.heap.size ∨ Rfoot q vs vl w.heap.size) := fun hi => by have := hF _ hi; omega
  have s0 : W0.cell? ⟨w.heap.size, 0, none⟩ = some (.int .i64 kd) := cell_of_row W0 _ 0 _ _ _ hr0
  have s1 : W0.cell? ⟨w.heap.size, 1, none⟩ = some (.int .i64 x) := cell_of_row W0 _ 1 _ _ _ hr0
  have s2 : W0.cell? ⟨w.heap.size, 2, none⟩ = some (.int .i64 n) := cell_of_row W0 _ 2 _ _ _ hr0
  have s4 : W0.cell? ⟨w.heap.size, 4, none⟩ = some (.slice A2 kn kc) := cell_of_row W0 _ 4 _ _ _ hr0
  subst hkd
  have hfin : ∀ (d' : Dv) (r' : Rv) (w1 w2 : World), Sim d' r' → Dleft W0 B g bs bl v (M + 16) d' w1 → Rdl w1 B q vs vl (M + 16) r' w2 → PairS w2 B g q (fun i => (Foot g bs bl v i ∨ Rfoot q vs vl i) ∨ w.heap.size ≤ i) (M + 16) d' ∧ Keeps (fun i => Foot g bs bl v i ∨ Rfoot q vs vl i) w w2 := fun d' r' w1 w2 hS hD hR => by
    obtain ⟨hP, hKK⟩ := pair_bothS hS hD0 hR0 hdj hD hR
    exact ⟨hP.mono (Nat.le_refl _) (fun i hi => hi.imp id (fun h1 => Nat.le_trans hg0.size h1)), ((Keeps.refl _ _).grown hg0 (fun k e => by cases e)).trans hKK (fun i hi => .inl hi)⟩
  have HW0 := Lib.hid hW0
  have HFIN := Lib.hid hfin
  have HDW := Lib.hid (flush_all hD0 hk hdo hM)
  have hsf := hsim.flush
  have HSM := Lib.hid hsf.1
  have HRW := Lib.hid (fun (W : World) (hR : Rdev W B q vs vl r) => (by have hh := rflush_all hR hs hrd hM; rw [← hsf.2] at hh; exact hh))
  have HRD := Lib.hid (fun (w1 : World) (d' : Dv) (hD : Dleft W0 B g bs bl v (M + 16) d' w1) => hD.rdev hR0 hdj)
  generalize d.flush.2 = E1 at *
  clear hsf hsim hD0 hR0 hW0 hg0 hdj hF h hr hk hdo hs hrd hM hr0 hfin
  go_enter Try.func16, Try.ntmps16
  go_wp2_with (first
    | (go_at_call 39; rw [← HW0.out]; refine HDW.out.mono ?_; rintro e w5 ⟨rfl, hD5⟩; have HR5 := Lib.hid (HRD.out _ _ hD5); have HD5 := Lib.hid hD5; clear hD5)
    | (go_at_call 37; refine (HRW.out _ HR5.out).mono ?_; rintro e w6 ⟨rfl, hR6⟩; have HR6 := Lib.hid hR6; clear hR6)
    | fail)
  go_ret
  exact ⟨rfl, HFIN.out _ _ _ _ HSM.out HD5.out HR6.out⟩

set_option maxHeartbeats 4000000 in
set_option maxRecDepth 8000 in
theorem sdo_crash {w : World} {B g q bs bl k M : Nat} {v vs vl : Value} {d : Dv} {r : Rv} (hsim : Sim d r) (h : Dev w B g bs bl v k d) (hk : k + d.ws.length ≤ M) (hdo : d.done ≤ M) (hr : Rdev w B q vs vl r) (hs : r.safe.length + r.loose.length ≤ M) (hrd : r.done ≤ M) (hM : M ≤ 100000) (hdj : ∀ i, Foot g bs bl v i → ¬ Rfoot q vs vl i)
    (kd x n : Int) (A A2 : Option Addr) (bn bc kn kc : Nat) (hkd : kd = 4) (ks : List Int) (hl : Rd w w.heap.size 1 A2 kn kc (ks.map (Value.int .i64))) (hkn : kn ≤ 1000) (hsep : 0 < kn → ∀ b o, A2 = some ⟨b, o, none⟩ → ¬ (Foot g bs bl v b ∨ Rfoot q vs vl b)) :
    Calls Try.prog 16 #[.pointer (some ⟨g, 0, none⟩), .pointer (some ⟨q, 0, none⟩), .agg #[.int .i64 kd, .int .i64 x, .int .i64 n, .slice A bn bc, .slice A2 kn kc]] w fun e w' => e = .returned (.bool true) ∧ PairS w' B g q (fun i => (Foot g bs bl v i ∨ Rfoot q vs vl i) ∨ w.heap.size ≤ i) (M + 16) (d.crash ks) ∧ Keeps (fun i => Foot g bs bl v i ∨ Rfoot q vs vl i) w w' := by
  obtain ⟨W0, hW0⟩ : ∃ W0, W0 = w.alloc (.cells #[.int .i64 kd, .int .i64 x, .int .i64 n, .slice A bn bc, .slice A2 kn kc] 41) := ⟨_, rfl⟩
  have hr0 : W0.heap[w.heap.size]? = some (.cells #[.int .i64 kd, .int .i64 x, .int .i64 n, .slice A bn bc, .slice A2 kn kc] 41 (0, 0)) := by rw [hW0]; exact heap_alloc_new w _
  have hg0 : w.grownBy W0 none := by rw [hW0]; exact World.grownBy_alloc _ _ _
  have hD0 := h.new hg0
  have hR0 := hr.new hg0
  have hF : ∀ i, (Foot g bs bl v i ∨ Rfoot q vs vl i) → i < w.heap.size := fun i hi => by
    rcases hi with hi | hi
    · exact (h.foot_lt hi).2
    · exact (hr.foot_lt hi).2
  have hF0 : ¬ (Foot g bs bl v w.heap.size ∨ Rfoot q vs vl w.heap.size) := fun hi => by have := hF _ hi; omega
  have s0 : W0.cell? ⟨w.heap.size, 0, none⟩ = some (.int .i64 kd) := cell_of_row W0 _ 0 _ _ _ hr0
  have s1 : W0.cell? ⟨w.heap.size, 1, none⟩ = some (.int .i64 x) := cell_of_row W0 _ 1 _ _ _ hr0
  have s2 : W0.cell? ⟨w.heap.size, 2, none⟩ = some (.int .i64 n) := cell_of_row W0 _ 2 _ _ _ hr0
  have s4 : W0.cell? ⟨w.heap.size, 4, none⟩ = some (.slice A2 kn kc) := cell_of_row W0 _ 4 _ _ _ hr0
  subst hkd
  have hfin : ∀ (d' : Dv) (r' : Rv) (w1 w2 : World), Sim d' r' → Dleft W0 B g bs bl v (M + 16) d' w1 → Rdl w1 B q vs vl (M + 16) r' w2 → PairS w2 B g q (fun i => (Foot g bs bl v i ∨ Rfoot q vs vl i) ∨ w.heap.size ≤ i) (M + 16) d' ∧ Keeps (fun i => Foot g bs bl v i ∨ Rfoot q vs vl i) w w2 := fun d' r' w1 w2 hS hD hR => by
    obtain ⟨hP, hKK⟩ := pair_bothS hS hD0 hR0 hdj hD hR
    exact ⟨hP.mono (Nat.le_refl _) (fun i hi => hi.imp id (fun h1 => Nat.le_trans hg0.size h1)), ((Keeps.refl _ _).grown hg0 (fun k e => by cases e)).trans hKK (fun i hi => .inl hi)⟩
  have HW0 := Lib.hid hW0
  have HFIN := Lib.hid hfin
  have hl0 : Rd W0 W0.heap.size 1 A2 kn kc (ks.map (Value.int .i64)) := (hl.keep (fun b o hb => World.cell?_of_block (a := ⟨b, o, none⟩) (hg0.block b hb (fun e => by cases e)))).more hg0.size
  have HDW := Lib.hid (crash_all hD0 hk hdo hM A2 kn kc ks hl0 (by omega) (fun h0 b o e hf => hsep h0 b o e (.inl hf)))
  have HRW := Lib.hid (fun (W : World) (hR : Rdev W B q vs vl r) (hlW : Rd W W.heap.size 1 A2 kn kc (ks.map (Value.int .i64))) => rcrash_all hR hs hrd hM A2 kn kc ks hlW (by omega) (fun h0 b o e hf => hsep h0 b o e (.inr hf)))
  have HRD := Lib.hid (fun (w1 : World) (d' : Dv) (hD : Dleft W0 B g bs bl v (M + 16) d' w1) => hD.rdev hR0 hdj)
  have HL0 := Lib.hid hl0
  have HSEP := Lib.hid hsep
  have HSM := Lib.hid (hsim.crash ks)
  clear hsim hl hl0 hkn hsep
  clear hD0 hR0 hW0 hg0 hdj hF h hr hk hdo hs hrd hM hr0 hfin
  go_enter Try.func16, Try.ntmps16
  go_wp2_with (first
    | (go_at_call 17; rw [← HW0.out]; refine HDW.out.mono ?_; rintro e w5 ⟨rfl, hD5⟩
       have HR5 := Lib.hid (HRD.out _ _ hD5)
       have HK5 : Hid (Keeps (Foot g bs bl v) W0 w5) := Lib.hid (by obtain ⟨a1, a2, a3, a4, a5, a6, a7, a8, a9⟩ := hD5; exact a8)
       have s45 := HK5.out.cell s4 (fun hf => hF0 (.inl hf))
       have HD5 := Lib.hid hD5
       clear hD5)
    | (go_at_call 18; refine (HRW.out _ HR5.out ((HL0.out.stayn (fun hp b o e hb => HK5.out.block b hb (fun hf => HSEP.out hp b o e (.inl hf)))).more HK5.out.size)).mono ?_; rintro e w6 ⟨rfl, hR6⟩; have HR6 := Lib.hid hR6; clear hR6)
    | fail)
  go_ret
  exact ⟨rfl, HFIN.out _ _ _ _ HSM.out HD5.out HR6.out⟩

set_option maxHeartbeats 4000000 in
set_option maxRecDepth 8000 in
theorem sdo_fuse {w : World} {B g q bs bl k M : Nat} {v vs vl : Value} {d : Dv} {r : Rv} (hsim : Sim d r) (h : Dev w B g bs bl v k d) (hk : k + d.ws.length ≤ M) (hdo : d.done ≤ M) (hr : Rdev w B q vs vl r) (hs : r.safe.length + r.loose.length ≤ M) (hrd : r.done ≤ M) (_ : M ≤ 100000) (hdj : ∀ i, Foot g bs bl v i → ¬ Rfoot q vs vl i)
    (kd x n : Int) (A A2 : Option Addr) (bn bc kn kc : Nat) (hkd : kd = 3) (hn : Key n) :
    Calls Try.prog 16 #[.pointer (some ⟨g, 0, none⟩), .pointer (some ⟨q, 0, none⟩), .agg #[.int .i64 kd, .int .i64 x, .int .i64 n, .slice A bn bc, .slice A2 kn kc]] w fun e w' => e = .returned (.bool true) ∧ PairS w' B g q (fun i => (Foot g bs bl v i ∨ Rfoot q vs vl i) ∨ w.heap.size ≤ i) (M + 16) (d.fused n) ∧ Keeps (fun i => Foot g bs bl v i ∨ Rfoot q vs vl i) w w' := by
  obtain ⟨W0, hW0⟩ : ∃ W0, W0 = w.alloc (.cells #[.int .i64 kd, .int .i64 x, .int .i64 n, .slice A bn bc, .slice A2 kn kc] 41) := ⟨_, rfl⟩
  have hr0 : W0.heap[w.heap.size]? = some (.cells #[.int .i64 kd, .int .i64 x, .int .i64 n, .slice A bn bc, .slice A2 kn kc] 41 (0, 0)) := by rw [hW0]; exact heap_alloc_new w _
  have hg0 : w.grownBy W0 none := by rw [hW0]; exact World.grownBy_alloc _ _ _
  have hD0 := h.new hg0
  have hR0 := hr.new hg0
  have hF : ∀ i, (Foot g bs bl v i ∨ Rfoot q vs vl i) → i < w.heap.size := fun i hi => by
    rcases hi with hi | hi
    · exact (h.foot_lt hi).2
    · exact (hr.foot_lt hi).2
  have hF0 : ¬ (Foot g bs bl v w.heap.size ∨ Rfoot q vs vl w.heap.size) := fun hi => by have := hF _ hi; omega
  have s0 : W0.cell? ⟨w.heap.size, 0, none⟩ = some (.int .i64 kd) := cell_of_row W0 _ 0 _ _ _ hr0
  have s1 : W0.cell? ⟨w.heap.size, 1, none⟩ = some (.int .i64 x) := cell_of_row W0 _ 1 _ _ _ hr0
  have s2 : W0.cell? ⟨w.heap.size, 2, none⟩ = some (.int .i64 n) := cell_of_row W0 _ 2 _ _ _ hr0
  have s4 : W0.cell? ⟨w.heap.size, 4, none⟩ = some (.slice A2 kn kc) := cell_of_row W0 _ 4 _ _ _ hr0
  subst hkd
  have hfin : ∀ (d' : Dv) (r' : Rv) (w1 w2 : World), Sim d' r' → Dleft W0 B g bs bl v (M + 16) d' w1 → Rdl w1 B q vs vl (M + 16) r' w2 → PairS w2 B g q (fun i => (Foot g bs bl v i ∨ Rfoot q vs vl i) ∨ w.heap.size ≤ i) (M + 16) d' ∧ Keeps (fun i => Foot g bs bl v i ∨ Rfoot q vs vl i) w w2 := fun d' r' w1 w2 hS hD hR => by
    obtain ⟨hP, hKK⟩ := pair_bothS hS hD0 hR0 hdj hD hR
    exact ⟨hP.mono (Nat.le_refl _) (fun i hi => hi.imp id (fun h1 => Nat.le_trans hg0.size h1)), ((Keeps.refl _ _).grown hg0 (fun k e => by cases e)).trans hKK (fun i hi => .inl hi)⟩
  have HW0 := Lib.hid hW0
  have HFIN := Lib.hid hfin
  have HDW := Lib.hid (fuse_any hD0 n hn)
  have HRD := Lib.hid (fun (w1 : World) (d' : Dv) (hD : Dleft W0 B g bs bl v (M + 16) d' w1) => hD.rdev hR0 hdj)
  have HKD := Lib.hid (And.intro hk hdo)
  have HKR := Lib.hid (And.intro hs hrd)
  have HN := Lib.hid hn
  have hn1 : -9223372036854775808 ≤ n := hn.1
  have hn2 : n ≤ 9223372036854775807 := hn.2
  have HSM := Lib.hid (hsim.fused n)
  clear hsim hn
  clear hD0 hR0 hW0 hg0 hdj hF h hr hk hdo hs hrd hr0 hfin
  go_enter Try.func16, Try.ntmps16
  go_wp2_with (first
    | (go_at_call 20; rw [← HW0.out]; refine HDW.out.mono ?_; rintro e w5 ⟨rfl, hD5, hg5⟩
       have hK5 : Keeps (Foot g bs bl v) W0 w5 := (Keeps.one hg5).wide (fun i hi => .inl hi)
       have hD5' : Dleft W0 B g bs bl v (M + 16) (d.fused n) w5 := ⟨bs, bl, v, k, hD5, Nat.le_trans HKD.out.1 (Nat.le_add_right _ _), Nat.le_trans HKD.out.2 (Nat.le_add_right _ _), hK5, fun i hi => .inl hi⟩
       have hR5 := HRD.out _ _ hD5'
       have s25 := hK5.cell s2 (fun hf => hF0 (.inl hf))
       have c4 := hR5.c4
       have f4 := hR5.free 4
       have HR5 := Lib.hid hR5
       have HD5 := Lib.hid hD5'
       clear hD5 hg5 hK5 hD5' hR5)
    | fail)
  go_ret
  have hrow := set_row HR5.out.row 4 (.int .i64 (max n (-1)))
  have hg6 := setCell_grows w5 q 4 (.int .i64 (max n (-1)))
  have hR6 : Rdev (w5.setCell ⟨q, 4, none⟩ (.int .i64 (max n (-1)))) B q vs vl { r with fuse := max n (-1) } := HR5.out.set hrow hg6 rfl rfl ⟨HR5.out.ok.n, HR5.out.ok.safe, HR5.out.ok.loose, by show -1 ≤ max n (-1) ∧ max n (-1) ≤ _; omega⟩
  exact ⟨rfl, HFIN.out _ _ _ _ HSM.out HD5.out ⟨vs, vl, hR6, Nat.le_trans HKR.out.1 (Nat.le_add_right _ _), Nat.le_trans HKR.out.2 (Nat.le_add_right _ _), (Keeps.one hg6).wide (fun i hi => .inl hi), fun i hi => .inl hi⟩⟩

set_option maxHeartbeats 4000000 in
set_option maxRecDepth 8000 in
theorem sdo_else {w : World} {B g q bs bl k M : Nat} {v vs vl : Value} {d : Dv} {r : Rv} (hsim : Sim d r) (h : Dev w B g bs bl v k d) (hk : k + d.ws.length ≤ M) (hdo : d.done ≤ M) (hr : Rdev w B q vs vl r) (hs : r.safe.length + r.loose.length ≤ M) (hrd : r.done ≤ M) (_ : M ≤ 100000) (hdj : ∀ i, Foot g bs bl v i → ¬ Rfoot q vs vl i)
    (kd x n : Int) (A A2 : Option Addr) (bn bc kn kc : Nat) (h0 : kd ≠ 0) (h1 : kd ≠ 1) (h2 : kd ≠ 2) (h3 : kd ≠ 3) (h4 : kd ≠ 4) :
    Calls Try.prog 16 #[.pointer (some ⟨g, 0, none⟩), .pointer (some ⟨q, 0, none⟩), .agg #[.int .i64 kd, .int .i64 x, .int .i64 n, .slice A bn bc, .slice A2 kn kc]] w fun e w' => e = .returned (.bool true) ∧ PairS w' B g q (fun i => (Foot g bs bl v i ∨ Rfoot q vs vl i) ∨ w.heap.size ≤ i) (M + 16) (d) ∧ Keeps (fun i => Foot g bs bl v i ∨ Rfoot q vs vl i) w w' := by
  obtain ⟨W0, hW0⟩ : ∃ W0, W0 = w.alloc (.cells #[.int .i64 kd, .int .i64 x, .int .i64 n, .slice A bn bc, .slice A2 kn kc] 41) := ⟨_, rfl⟩
  have hr0 : W0.heap[w.heap.size]? = some (.cells #[.int .i64 kd, .int .i64 x, .int .i64 n, .slice A bn bc, .slice A2 kn kc] 41 (0, 0)) := by rw [hW0]; exact heap_alloc_new w _
  have hg0 : w.grownBy W0 none := by rw [hW0]; exact World.grownBy_alloc _ _ _
  have hD0 := h.new hg0
  have hR0 := hr.new hg0
  have hF : ∀ i, (Foot g bs bl v i ∨ Rfoot q vs vl i) → i < w.heap.size := fun i hi => by
    rcases hi with hi | hi
    · exact (h.foot_lt hi).2
    · exact (hr.foot_lt hi).2
  have hF0 : ¬ (Foot g bs bl v w.heap.size ∨ Rfoot q vs vl w.heap.size) := fun hi => by have := hF _ hi; omega
  have s0 : W0.cell? ⟨w.heap.size, 0, none⟩ = some (.int .i64 kd) := cell_of_row W0 _ 0 _ _ _ hr0
  have s1 : W0.cell? ⟨w.heap.size, 1, none⟩ = some (.int .i64 x) := cell_of_row W0 _ 1 _ _ _ hr0
  have s2 : W0.cell? ⟨w.heap.size, 2, none⟩ = some (.int .i64 n) := cell_of_row W0 _ 2 _ _ _ hr0
  have s4 : W0.cell? ⟨w.heap.size, 4, none⟩ = some (.slice A2 kn kc) := cell_of_row W0 _ 4 _ _ _ hr0

  have hfin : ∀ (d' : Dv) (r' : Rv) (w1 w2 : World), Sim d' r' → Dleft W0 B g bs bl v (M + 16) d' w1 → Rdl w1 B q vs vl (M + 16) r' w2 → PairS w2 B g q (fun i => (Foot g bs bl v i ∨ Rfoot q vs vl i) ∨ w.heap.size ≤ i) (M + 16) d' ∧ Keeps (fun i => Foot g bs bl v i ∨ Rfoot q vs vl i) w w2 := fun d' r' w1 w2 hS hD hR => by
    obtain ⟨hP, hKK⟩ := pair_bothS hS hD0 hR0 hdj hD hR
    exact ⟨hP.mono (Nat.le_refl _) (fun i hi => hi.imp id (fun h1 => Nat.le_trans hg0.size h1)), ((Keeps.refl _ _).grown hg0 (fun k e => by cases e)).trans hKK (fun i hi => .inl hi)⟩
  have HW0 := Lib.hid hW0
  have HFIN := Lib.hid hfin
  have e0 : ((kd == 0) : Bool) = false := by simpa using h0
  have e1 : ((kd == 1) : Bool) = false := by simpa using h1
  have e2 : ((kd == 2) : Bool) = false := by simpa using h2
  have e3 : ((kd == 3) : Bool) = false := by simpa using h3
  have e4 : ((kd == 4) : Bool) = false := by simpa using h4
  have HD0 := Lib.hid (dl_same (M := M + 16) hD0 (by omega) (by omega))
  have HR0 := Lib.hid (rdl_same (M := M + 16) hR0 (by omega) (by omega))
  have HSM := Lib.hid hsim
  clear hsim h0 h1 h2 h3 h4
  clear hD0 hR0 hW0 hg0 hdj hF h hr hk hdo hs hrd hr0 hfin
  go_enter Try.func16, Try.ntmps16
  go_wp2
  rw [← HW0.out]
  go_ret
  exact ⟨rfl, HFIN.out _ _ _ _ HSM.out HD0.out HR0.out⟩

set_option maxHeartbeats 4000000 in
set_option maxRecDepth 8000 in
theorem sdo_read {w : World} {B g q bs bl k M : Nat} {v vs vl : Value} {d : Dv} {r : Rv} (hsim : Sim d r) (h : Dev w B g bs bl v k d) (hk : k + d.ws.length ≤ M) (hdo : d.done ≤ M) (hr : Rdev w B q vs vl r) (hs : r.safe.length + r.loose.length ≤ M) (hrd : r.done ≤ M) (hM : M ≤ 100000) (hdj : ∀ i, Foot g bs bl v i → ¬ Rfoot q vs vl i)
    (kd x n : Int) (A A2 : Option Addr) (bn bc kn kc : Nat) (hkd : kd = 1) (hn : Key n) :
    Calls Try.prog 16 #[.pointer (some ⟨g, 0, none⟩), .pointer (some ⟨q, 0, none⟩), .agg #[.int .i64 kd, .int .i64 x, .int .i64 n, .slice A bn bc, .slice A2 kn kc]] w fun e w' => e = .returned (.bool true) ∧ PairS w' B g q (fun i => (Foot g bs bl v i ∨ Rfoot q vs vl i) ∨ w.heap.size ≤ i) (M + 16) (d) ∧ Keeps (fun i => Foot g bs bl v i ∨ Rfoot q vs vl i) w w' := by
  obtain ⟨W0, hW0⟩ : ∃ W0, W0 = w.alloc (.cells #[.int .i64 kd, .int .i64 x, .int .i64 n, .slice A bn bc, .slice A2 kn kc] 41) := ⟨_, rfl⟩
  have hr0 : W0.heap[w.heap.size]? = some (.cells #[.int .i64 kd, .int .i64 x, .int .i64 n, .slice A bn bc, .slice A2 kn kc] 41 (0, 0)) := by rw [hW0]; exact heap_alloc_new w _
  have hg0 : w.grownBy W0 none := by rw [hW0]; exact World.grownBy_alloc _ _ _
  have hD0 := h.new hg0
  have hR0 := hr.new hg0
  have hF : ∀ i, (Foot g bs bl v i ∨ Rfoot q vs vl i) → i < w.heap.size := fun i hi => by
    rcases hi with hi | hi
    · exact (h.foot_lt hi).2
    · exact (hr.foot_lt hi).2
  have hF0 : ¬ (Foot g bs bl v w.heap.size ∨ Rfoot q vs vl w.heap.size) := fun hi => by have := hF _ hi; omega
  have s0 : W0.cell? ⟨w.heap.size, 0, none⟩ = some (.int .i64 kd) := cell_of_row W0 _ 0 _ _ _ hr0
  have s1 : W0.cell? ⟨w.heap.size, 1, none⟩ = some (.int .i64 x) := cell_of_row W0 _ 1 _ _ _ hr0
  have s2 : W0.cell? ⟨w.heap.size, 2, none⟩ = some (.int .i64 n) := cell_of_row W0 _ 2 _ _ _ hr0
  have s4 : W0.cell? ⟨w.heap.size, 4, none⟩ = some (.slice A2 kn kc) := cell_of_row W0 _ 4 _ _ _ hr0

  have hfin : ∀ (d' : Dv) (r' : Rv) (w1 w2 : World), Sim d' r' → Dleft W0 B g bs bl v (M + 16) d' w1 → Rdl w1 B q vs vl (M + 16) r' w2 → PairS w2 B g q (fun i => (Foot g bs bl v i ∨ Rfoot q vs vl i) ∨ w.heap.size ≤ i) (M + 16) d' ∧ Keeps (fun i => Foot g bs bl v i ∨ Rfoot q vs vl i) w w2 := fun d' r' w1 w2 hS hD hR => by
    obtain ⟨hP, hKK⟩ := pair_bothS hS hD0 hR0 hdj hD hR
    exact ⟨hP.mono (Nat.le_refl _) (fun i hi => hi.imp id (fun h1 => Nat.le_trans hg0.size h1)), ((Keeps.refl _ _).grown hg0 (fun k e => by cases e)).trans hKK (fun i hi => .inl hi)⟩
  have HW0 := Lib.hid hW0
  have HFIN := Lib.hid hfin
  subst hkd
  have HDR := Lib.hid (fun (W : World) (hb : Below W0.heap.size W0 W) => read_exact (hD0.below hb) x n hn)
  have HRR := Lib.hid (fun (W : World) (hb : Below W0.heap.size W0 W) => rread_exact hsim (hR0.below hb) (by omega) x n)
  have HKD := Lib.hid (dl_same (M := M + 16) hD0 (by omega) (by omega))
  have HKR := Lib.hid (rdl_same (M := M + 16) hR0 (by omega) (by omega))
  have HDB := Lib.hid (fun (W : World) (hb : Below W0.heap.size W0 W) => dl_same (M := M + 16) (hD0.below hb) (by omega) (by omega))
  have HRB := Lib.hid (fun (W : World) (hb : Below W0.heap.size W0 W) => rdl_same (M := M + 16) (hR0.below hb) (by omega) (by omega))
  have c0 := hR0.c0
  have hrn : (r.n : Int) ≤ 65536 := by have := hR0.ok.n; omega
  have hgrow : ∀ W, Below W0.heap.size W0 W → PairS W B g q (fun i => (Foot g bs bl v i ∨ Rfoot q vs vl i) ∨ w.heap.size ≤ i) (M + 16) d ∧ Keeps (fun i => Foot g bs bl v i ∨ Rfoot q vs vl i) w W := fun W hb => by
    refine ⟨⟨bs, bl, v, k, vs, vl, r, hD0.below hb, by omega, by omega, hR0.below hb, by omega, by omega, hdj, fun i hi => .inl hi, hsim⟩, ((Keeps.refl _ _).grown hg0 (fun k e => by cases e)).trans (Keeps.of_below (F := fun _ => False) hb) (fun i hi => hi.elim)⟩
  have HGR := Lib.hid hgrow
  generalize d.gotB x n = lb at *
  generalize d.gotE x n = E1 at *
  clear hgrow hn
  have hfin : ∀ (d' : Dv) (r' : Rv) (w1 w2 : World), Sim d' r' → Dleft W0 B g bs bl v (M + 16) d' w1 → Rdl w1 B q vs vl (M + 16) r' w2 → PairS w2 B g q (fun i => (Foot g bs bl v i ∨ Rfoot q vs vl i) ∨ w.heap.size ≤ i) (M + 16) d' ∧ Keeps (fun i => Foot g bs bl v i ∨ Rfoot q vs vl i) w w2 := fun d' r' w1 w2 hS hD hR => by
    obtain ⟨hP, hKK⟩ := pair_bothS hS hD0 hR0 hdj hD hR
    exact ⟨hP.mono (Nat.le_refl _) (fun i hi => hi.imp id (fun h1 => Nat.le_trans hg0.size h1)), ((Keeps.refl _ _).grown hg0 (fun k e => by cases e)).trans hKK (fun i hi => .inl hi)⟩
  have HW0 := Lib.hid hW0
  clear hsim hD0 hR0 hW0 hg0 hdj hF h hr hk hdo hs hrd hM hr0 hfin
  by_cases h1 : 100 < n
  · have b1 : decide (100 < n) = true := by simpa using h1
    by_cases h2 : n ≤ (r.n : Int)
    · have b2 : decide (n ≤ (r.n : Int)) = true := by simpa using h2
      go_enter Try.func16, Try.ntmps16
      go_wp2
      rw [← HW0.out]
      go_quiet (fail)
      have hbq : Below W0.heap.size W0 (W0.drewN nq) := ⟨rfl, rfl, rfl, Nat.le_refl _, fun _ _ => rfl⟩
      have t1 := (hbq.cell (p := ⟨w.heap.size, 1, none⟩) (block_lt_of_cell s1)).trans s1
      have t2 := (hbq.cell (p := ⟨w.heap.size, 2, none⟩) (block_lt_of_cell s2)).trans s2
      have HBQ := Lib.hid hbq
      clear hbq
      generalize W0.drewN nq = W1 at *
      go_wp2
      go_ret
      exact ⟨rfl, HGR.out _ HBQ.out⟩
    · have b2 : decide (n ≤ (r.n : Int)) = false := by simpa using h2
      go_enter Try.func16, Try.ntmps16
      go_wp2
      rw [← HW0.out]
      go_quiet (fail)
      have hbq : Below W0.heap.size W0 (W0.drewN nq) := ⟨rfl, rfl, rfl, Nat.le_refl _, fun _ _ => rfl⟩
      have t1 := (hbq.cell (p := ⟨w.heap.size, 1, none⟩) (block_lt_of_cell s1)).trans s1
      have t2 := (hbq.cell (p := ⟨w.heap.size, 2, none⟩) (block_lt_of_cell s2)).trans s2
      have HBQ := Lib.hid hbq
      clear hbq
      generalize W0.drewN nq = W1 at *
      go_wp2_with (first
        | (go_at_call 24; refine (HDR.out _ HBQ.out).mono ?_; rintro e w5 ⟨A5, n5, c5, rfl, hr5, hb5⟩
           have hb05 : Below W0.heap.size W0 w5 := HBQ.out.trans (hb5.mono HBQ.out.size)
           have u1 := (hb5.cell (p := ⟨w.heap.size, 1, none⟩) (block_lt_of_cell t1)).trans t1
           have u2 := (hb5.cell (p := ⟨w.heap.size, 2, none⟩) (block_lt_of_cell t2)).trans t2
           have H05 := Lib.hid hb05
           have HR5 := Lib.hid hr5
           clear hb05 hb5 hr5)
        | (go_at_call 28; refine (HRR.out _ H05.out).mono ?_; rintro e w6 ⟨A6, n6, c6, rfl, hr6, hb6⟩
           have hb06 : Below W0.heap.size W0 w6 := H05.out.trans (hb6.mono H05.out.size)
           have hr56 := (HR5.out.below hb6)
           have H06 := Lib.hid hb06
           have HR6 := Lib.hid hr6
           have HR56 := Lib.hid hr56
           clear hb06 hb6 hr6 hr56)
        | (refine wpL_str rfl (.tmp 60) _ _ rfl Try.underlying38 Try.underlying5 Try.underlying9 rfl HR56.out ?_)
        | (refine wpL_str rfl (.tmp 62) _ _ rfl Try.underlying38 Try.underlying5 Try.underlying9 rfl HR6.out ?_)
        | fail)
      all_goals (go_ret; exact ⟨rfl, HGR.out _ H06.out⟩)
  · have b1 : decide (100 < n) = false := by simpa using h1
    go_enter Try.func16, Try.ntmps16
    go_wp2
    rw [← HW0.out]
    go_quiet (fail)
    have hbq : Below W0.heap.size W0 (W0.drewN nq) := ⟨rfl, rfl, rfl, Nat.le_refl _, fun _ _ => rfl⟩
    have t1 := (hbq.cell (p := ⟨w.heap.size, 1, none⟩) (block_lt_of_cell s1)).trans s1
    have t2 := (hbq.cell (p := ⟨w.heap.size, 2, none⟩) (block_lt_of_cell s2)).trans s2
    have HBQ := Lib.hid hbq
    clear hbq
    generalize W0.drewN nq = W1 at *
    go_wp2_with (first
      | (go_at_call 24; refine (HDR.out _ HBQ.out).mono ?_; rintro e w5 ⟨A5, n5, c5, rfl, hr5, hb5⟩
         have hb05 : Below W0.heap.size W0 w5 := HBQ.out.trans (hb5.mono HBQ.out.size)
         have u1 := (hb5.cell (p := ⟨w.heap.size, 1, none⟩) (block_lt_of_cell t1)).trans t1
         have u2 := (hb5.cell (p := ⟨w.heap.size, 2, none⟩) (block_lt_of_cell t2)).trans t2
         have H05 := Lib.hid hb05
         have HR5 := Lib.hid hr5
         clear hb05 hb5 hr5)
      | (go_at_call 28; refine (HRR.out _ H05.out).mono ?_; rintro e w6 ⟨A6, n6, c6, rfl, hr6, hb6⟩
         have hb06 : Below W0.heap.size W0 w6 := H05.out.trans (hb6.mono H05.out.size)
         have hr56 := (HR5.out.below hb6)
         have H06 := Lib.hid hb06
         have HR6 := Lib.hid hr6
         have HR56 := Lib.hid hr56
         clear hb06 hb6 hr6 hr56)
      | (refine wpL_str rfl (.tmp 60) _ _ rfl Try.underlying38 Try.underlying5 Try.underlying9 rfl HR56.out ?_)
      | (refine wpL_str rfl (.tmp 62) _ _ rfl Try.underlying38 Try.underlying5 Try.underlying9 rfl HR6.out ?_)
      | fail)
    all_goals (go_ret; exact ⟨rfl, HGR.out _ H06.out⟩)

theorem sdo_any {w : World} {B g q M : Nat} {F : Nat → Prop} {d : Dv} (hP : PairS w B g q F M d) (hM : M ≤ 100000) (o : Opd) (ho : o.Reads w) (hbn : o.bn ≤ 1000) (hkn : o.kn ≤ 1000) (hsep : 0 < o.bn → ∀ b i, o.A = some ⟨b, i, none⟩ → ¬ F b) (hsep2 : 0 < o.kn → ∀ b i, o.A2 = some ⟨b, i, none⟩ → ¬ F b) :
    Calls Try.prog 16 #[.pointer (some ⟨g, 0, none⟩), .pointer (some ⟨q, 0, none⟩), .agg o.cells] w fun e w' => e = .returned (.bool true) ∧ PairS w' B g q (fun i => F i ∨ w.heap.size ≤ i) (M + 64) (d.op o) ∧ Keeps F w w' := by
  obtain ⟨bs, bl, v, k, vs, vl, r, hD, hk, hdo, hR, hs, hrd, hdj, hF, hsim⟩ := hP
  obtain ⟨hl, hl2, wk, wa, wn, _⟩ := ho
  have hkey : Key o.n := by
    unfold Key
    simp [Lit.wf, IntKind.min, IntKind.max, IntKind.signed, IntKind.bits] at wn
    omega
  have wide : ∀ {d' : Dv} {e : Ending} {w' : World} {M' : Nat}, M' ≤ M + 64 → (e = .returned (.bool true) ∧ PairS w' B g q (fun i => (Foot g bs bl v i ∨ Rfoot q vs vl i) ∨ w.heap.size ≤ i) M' d' ∧ Keeps (fun i => Foot g bs bl v i ∨ Rfoot q vs vl i) w w') → (e = .returned (.bool true) ∧ PairS w' B g q (fun i => F i ∨ w.heap.size ≤ i) (M + 64) d' ∧ Keeps F w w') := fun hm h =>
    ⟨h.1, h.2.1.mono hm (fun i hi => hi.imp (hF i) id), h.2.2.wide hF⟩
  unfold Dv.op
  obtain ⟨kd, x, n, A, bn, bc, l, A2, kn, kc, ks⟩ := o
  dsimp only at *
  by_cases h0 : kd = 0
  · subst h0
    rw [if_pos rfl]
    exact (sdo_write hsim hD hk hdo hR hs hrd hM hdj x n A A2 bn bc kn kc l hl hbn (fun h0 b i e hf => hsep h0 b i e (hF b hf))).mono fun e w' h => wide (by omega) h
  · rw [if_neg h0]
    by_cases h1 : kd = 1
    · rw [if_neg (by omega), if_neg (by omega), if_neg (by omega)]
      exact (sdo_read hsim hD hk hdo hR hs hrd hM hdj kd x n A A2 bn bc kn kc h1 hkey).mono fun e w' h => wide (by omega) h
    · by_cases h2 : kd = 2
      · rw [if_pos h2]
        exact (sdo_flush hsim hD hk hdo hR hs hrd hM hdj kd x n A A2 bn bc kn kc h2).mono fun e w' h => wide (by omega) h
      · rw [if_neg h2]
        by_cases h3 : kd = 3
        · rw [if_pos h3]
          exact (sdo_fuse hsim hD hk hdo hR hs hrd hM hdj kd x n A A2 bn bc kn kc h3 hkey).mono fun e w' h => wide (by omega) h
        · rw [if_neg h3]
          by_cases h4 : kd = 4
          · rw [if_pos h4]
            exact (sdo_crash hsim hD hk hdo hR hs hrd hM hdj kd x n A A2 bn bc kn kc h4 ks hl2 hkn (fun h0 b i e hf => hsep2 h0 b i e (hF b hf))).mono fun e w' h => wide (by omega) h
          · rw [if_neg h4]
            exact (sdo_else hsim hD hk hdo hR hs hrd hM hdj kd x n A A2 bn bc kn kc h0 h1 h2 h3 h4).mono fun e w' h => wide (by omega) h

end Go.Proofs.Ytddnjlnhnnpgiaa
