/- A call, both ways: Do. -/
import Derived.Test.YtdmcbojncgdccaaDo
namespace Go.Proofs.Ytdmcbojncgdccaa
open Go.RowKit

/-- What a call leaves of a device. -/
def Dv.op (d : Dv) (o : Opd) : Dv := if o.kind = 0 then d.wrote o.at_ o.b else if o.kind = 2 then d.flush.1 else if o.kind = 3 then d.fused o.n else if o.kind = 4 then d.crash o.keep else d
/-- A device and a reference device beside each other. -/
def Pair (w : World) (B g q : Nat) (F : Nat → Prop) (M : Nat) (d : Dv) : Prop := ∃ bs bl v k vs vl r, Dev w B g bs bl v k d ∧ k + d.ws.length ≤ M ∧ d.done ≤ M ∧ Rdev w B q vs vl r ∧ r.safe.length + r.loose.length ≤ M ∧ r.done ≤ M ∧ (∀ i, Foot g bs bl v i → ¬ Rfoot q vs vl i) ∧ ∀ i, (Foot g bs bl v i ∨ Rfoot q vs vl i) → F i
theorem Pair.mono {w : World} {B g q M M' : Nat} {F F' : Nat → Prop} {d : Dv} (h : Pair w B g q F M d) (hM : M ≤ M') (hF : ∀ i, F i → F' i) : Pair w B g q F' M' d := by
  obtain ⟨bs, bl, v, k, vs, vl, r, h1, h2, h3, h4, h5, h6, h7, h8⟩ := h
  exact ⟨bs, bl, v, k, vs, vl, r, h1, by omega, by omega, h4, by omega, by omega, h7, fun i hi => hF i (h8 i hi)⟩
theorem Pair.keeps {w w' : World} {B g q M : Nat} {F G : Nat → Prop} {d : Dv} (h : Pair w B g q F M d) (kp : Keeps G w w') (hG : ∀ i, G i → ¬ F i) : Pair w' B g q F M d := by
  obtain ⟨bs, bl, v, k, vs, vl, r, h1, h2, h3, h4, h5, h6, h7, h8⟩ := h
  exact ⟨bs, bl, v, k, vs, vl, r, h1.keeps kp (fun i hi hf => hG i hi (h8 i (.inl hf))), h2, h3, h4.keeps kp (fun i hi hf => hG i hi (h8 i (.inr hf))), h5, h6, h7, h8⟩
section
variable {w w1 w2 : World} {B g q bs bl k M : Nat} {v vs vl : Value} {d d' : Dv} {r r' : Rv}
/-- The device first, the reference device then. -/
theorem pair_both (h : Dev w B g bs bl v k d) (hr : Rdev w B q vs vl r) (hdj : ∀ i, Foot g bs bl v i → ¬ Rfoot q vs vl i) (hD : Dleft w B g bs bl v M d' w1) (hR : Rdl w1 B q vs vl M r' w2) : Pair w2 B g q (fun i => (Foot g bs bl v i ∨ Rfoot q vs vl i) ∨ w.heap.size ≤ i) M d' ∧ Keeps (fun i => Foot g bs bl v i ∨ Rfoot q vs vl i) w w2 := by
  obtain ⟨bs', bl', v', k', hD1, hk1, hd1, hK1, hf1⟩ := hD
  obtain ⟨vs', vl', hR2, hs2, hd2, hK2, hf2⟩ := hR
  have hz1 := hK1.size
  refine ⟨⟨bs', bl', v', k', vs', vl', r', hD1.keeps hK2 (fun i hi hf => ?_), hk1, hd1, hR2, hs2, hd2, fun i hi hf => ?_, fun i hi => ?_⟩, (hK1.wide (fun i hi => .inl hi)).trans hK2 (fun i hi => .inl (.inr hi))⟩
  · rcases hf1 i hf with h1 | h1
    · exact hdj i h1 hi
    · have := (hr.foot_lt hi).2
      omega
  · rcases hf2 i hf with h2 | h2
    · rcases hf1 i hi with h1 | h1
      · exact hdj i h1 h2
      · have := (hr.foot_lt h2).2
        omega
    · have := (hD1.foot_lt hi).2
      omega
  · rcases hi with hi | hi
    · rcases hf1 i hi with h1 | h1
      · exact .inl (.inl h1)
      · exact .inr h1
    · rcases hf2 i hi with h2 | h2
      · exact .inl (.inr h2)
      · exact .inr (by omega)
theorem rdl_same (hr : Rdev w B q vs vl r) (hs : r.safe.length + r.loose.length ≤ M) (hd : r.done ≤ M) : Rdl w B q vs vl M r w := ⟨vs, vl, hr, hs, hd, Keeps.refl _ _, fun i hi => .inl hi⟩
theorem dl_same (h : Dev w B g bs bl v k d) (hk : k + d.ws.length ≤ M) (hd : d.done ≤ M) : Dleft w B g bs bl v M d w := ⟨bs, bl, v, k, h, hk, hd, Keeps.refl _ _, fun i hi => .inl hi⟩
theorem Dleft.rdev (hD : Dleft w B g bs bl v M d' w1) (hr : Rdev w B q vs vl r) (hdj : ∀ i, Foot g bs bl v i → ¬ Rfoot q vs vl i) : Rdev w1 B q vs vl r := by
  obtain ⟨_, _, _, _, _, _, _, hK1, _⟩ := hD
  exact hr.keeps hK1 hdj
end

set_option maxHeartbeats 4000000 in
set_option maxRecDepth 8000 in
theorem do_write {w : World} {B g q bs bl k M : Nat} {v vs vl : Value} {d : Dv} {r : Rv} (h : Dev w B g bs bl v k d) (hk : k + d.ws.length ≤ M) (hdo : d.done ≤ M) (hr : Rdev w B q vs vl r) (hs : r.safe.length + r.loose.length ≤ M) (hrd : r.done ≤ M) (hM : M ≤ 100000) (hdj : ∀ i, Foot g bs bl v i → ¬ Rfoot q vs vl i)
    (x n : Int) (A A2 : Option Addr) (bn bc kn kc : Nat) (l : List UInt8) (hl : Rd w w.heap.size 1 A bn bc (u8s l)) (hbn : bn ≤ 1000) (hsep : 0 < bn → ∀ b o, A = some ⟨b, o, none⟩ → ¬ (Foot g bs bl v b ∨ Rfoot q vs vl b)) :
    Calls Try.prog 11 #[.pointer (some ⟨g, 0, none⟩), .pointer (some ⟨q, 0, none⟩), .agg #[.int .i64 0, .int .i64 x, .int .i64 n, .slice A bn bc, .slice A2 kn kc]] w fun e w' => (∃ b, e = .returned (.bool b)) ∧ Pair w' B g q (fun i => (Foot g bs bl v i ∨ Rfoot q vs vl i) ∨ w.heap.size ≤ i) (M + 16) (d.wrote x l) ∧ Keeps (fun i => Foot g bs bl v i ∨ Rfoot q vs vl i) w w' := by
  obtain ⟨W0, hW0⟩ : ∃ W0, W0 = w.alloc (.cells #[.int .i64 0, .int .i64 x, .int .i64 n, .slice A bn bc, .slice A2 kn kc] 33) := ⟨_, rfl⟩
  have hr0 : W0.heap[w.heap.size]? = some (.cells #[.int .i64 0, .int .i64 x, .int .i64 n, .slice A bn bc, .slice A2 kn kc] 33 (0, 0)) := by rw [hW0]; exact heap_alloc_new w _
  have hg0 : w.grownBy W0 none := by rw [hW0]; exact World.grownBy_alloc _ _ _
  have hD0 := h.new hg0
  have hR0 := hr.new hg0
  have hl0 : Rd W0 W0.heap.size 1 A bn bc (u8s l) := (hl.keep (fun b o hb => World.cell?_of_block (a := ⟨b, o, none⟩) (hg0.block b hb (fun e => by cases e)))).more hg0.size
  have hF : ∀ i, (Foot g bs bl v i ∨ Rfoot q vs vl i) → i < w.heap.size := fun i hi => by
    rcases hi with hi | hi
    · exact (h.foot_lt hi).2
    · exact (hr.foot_lt hi).2
  have hF0 : ¬ (Foot g bs bl v w.heap.size ∨ Rfoot q vs vl w.heap.size) := fun hi => by have := hF _ hi; omega
  have s1 : W0.cell? ⟨w.heap.size, 1, none⟩ = some (.int .i64 x) := cell_of_row W0 _ 1 _ _ _ hr0
  have s3 : W0.cell? ⟨w.heap.size, 3, none⟩ = some (.slice A bn bc) := cell_of_row W0 _ 3 _ _ _ hr0
  have HDW := Lib.hid (fun (W : World) (hb : Below W0.heap.size W0 W) => write_all (hD0.below hb) hk hdo hM x A bn bc l ((hl0.below hb).more hb.size) (fun h0 b o e hf => hsep h0 b o e (.inl hf)) hbn)
  have HRW := Lib.hid (fun (W : World) (hR : Rdev W B q vs vl r) (hlW : Rd W W.heap.size 1 A bn bc (u8s l)) => rwrite_all hR hs hrd hM x A bn bc l hlW (fun h0 b o e hf => hsep h0 b o e (.inr hf)) hbn)
  have HD0 := Lib.hid hD0
  have HR0 := Lib.hid hR0
  have HL0 := Lib.hid hl0
  have HW0 := Lib.hid hW0
  have HG0 := Lib.hid hg0
  have HDJ := Lib.hid hdj
  have HSEP := Lib.hid hsep
  have HF := Lib.hid hF
  have hM0 := Lib.hid hM
  clear hD0 hR0 hl0 hW0 hg0 hdj hsep hF h hr hk hdo hs hrd hM hl hbn hr0
  go_enter Try.func11, Try.ntmps11
  go_wp2
  rw [← HW0.out]
  refine wp_segs [([0, 1, 2, 3, 4, 6, 7, 8, 9, 10], 5), ([], 11)] [12, 13] (fun x => Keeps (fun i => (Foot g bs bl v i ∨ Rfoot q vs vl i)) W0 x) (by kernel_rfl) (by kernel_rfl) (fun d _ _ _ _ h => by cases d <;> exact h) (Keeps.refl _ _).drew ?_
  intro f hf
  have F1 := fun z => (hf z).cell s1 hF0
  have F3 := fun z => (hf z).cell s3 hF0
  simp only [pickI, Option.toList_some, List.cons_append, List.nil_append, List.getElem?_toArray, List.getElem?_cons_succ, List.getElem?_cons_zero]
  repeat (go_big_quiet_step (fail))
  refine wpQuiet_nil ?_
  clear F1 F3 hf f
  refine seg_op (by simp only [List.getElem?_toArray, List.getElem?_cons_succ, List.getElem?_cons_zero]; rfl) fun K hK => ?_
  go_simp
  refine (HDW.out _ (Below.refl _ _).drew).mono ?_
  rintro e w5 ⟨⟨E1, rfl⟩, hD5⟩
  have hD5' : Dleft W0 B g bs bl v (M + 16) (d.wrote x l) w5 := by
    obtain ⟨a1, a2, a3, a4, a5, a6, a7, a8, a9⟩ := hD5
    exact ⟨a1, a2, a3, a4, a5, a6, a7, a8.drew0, a9⟩
  have hR5 := hD5'.rdev HR0.out HDJ.out
  have hK5 : Keeps (Foot g bs bl v) W0 w5 := by obtain ⟨a1, a2, a3, a4, a5, a6, a7, a8, a9⟩ := hD5'; exact a8
  have hl5 : Rd w5 w5.heap.size 1 A bn bc (u8s l) := (HL0.out.stayn (fun hp b o e hb => hK5.block b hb (fun hf => HSEP.out hp b o e (.inl hf)))).more hK5.size
  refine hK.out _ _ (seg_keep (hK5.wide (fun i hi => .inl hi)) ?_)
  clear hK K
  try go_frame
  intro f hf
  refine wpQuiet_nil ?_
  clear hf f
  refine seg_op (by simp only [List.getElem?_toArray, List.getElem?_cons_succ, List.getElem?_cons_zero]; rfl) fun K hK => ?_
  go_simp
  refine (HRW.out _ hR5 hl5).mono ?_
  rintro e w6 ⟨⟨E2, rfl⟩, hR6⟩
  obtain ⟨hP, hKK⟩ := pair_both HD0.out HR0.out HDJ.out hD5' hR6
  refine hK.out _ _ (seg_keep hKK ?_)
  clear hK K
  try go_frame
  intro f hf
  simp only [pickI, Option.toList_some, List.cons_append, List.nil_append, List.getElem?_toArray, List.getElem?_cons_succ, List.getElem?_cons_zero]
  repeat (go_big_quiet_step (fail))
  refine wpQuiet_nil ?_
  clear hf f
  go_wp2
  go_ret
  refine ⟨⟨_, rfl⟩, hP.mono (Nat.le_refl _) (fun i hi => hi.imp id (fun h1 => Nat.le_trans HG0.out.size h1)), ((Keeps.refl _ _).grown HG0.out (fun k e => by cases e)).trans hKK (fun i hi => .inl hi)⟩

end Go.Proofs.Ytdmcbojncgdccaa
