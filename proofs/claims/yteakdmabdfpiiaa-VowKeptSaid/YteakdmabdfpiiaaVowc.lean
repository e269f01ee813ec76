/- A vow on a device beside rows X: what each call leaves of it. -/
import Derived.Test.YteakdmabdfpiiaaVowb
namespace Go.Proofs.Yteakdmabdfpiiaa
set_option maxRecDepth 20000
open Go.RowKit

/-- A vow, its twin, its device. -/
def Vlx (X : Nat → Prop) (w W : World) (B g T V M : Nat) (d : Dv) (t : Tv) (p : Vv) : Prop :=
  Tlx (fun i => X i ∨ i = V) w W B g T M d t ∧ Vw W V (some ⟨T, 0, none⟩) p ∧ w.heap.size ≤ V ∧ ¬ X V
section
variable {X X' : Nat → Prop} {w W W' : World} {B g T V M M' : Nat} {d : Dv} {t : Tv} {p : Vv}
theorem Vlx.bel (h : Vlx X w W B g T V M d t p) : Below w.heap.size w W := h.1.bel
theorem Vlx.vw (h : Vlx X w W B g T V M d t p) : Vw W V (some ⟨T, 0, none⟩) p := h.2.1
theorem Vlx.le (h : Vlx X w W B g T V M d t p) (hM : M ≤ M') : Vlx X w W B g T V M' d t p := ⟨h.1.le hM, h.2⟩
theorem Vlx.below (h : Vlx X w W B g T V M d t p) (hb : Below W.heap.size W W') : Vlx X w W' B g T V M d t p := ⟨h.1.below hb, h.2.1.below hb, h.2.2⟩
theorem Vlx.more (h : Vlx X w W B g T V M d t p) (hb : Below W.heap.size W W') (hX : ∀ i, X' i → (X i ∨ W.heap.size ≤ i) ∧ i < W'.heap.size) : Vlx X' w W' B g T V M d t p := by
  have hlt := h.2.1.lt
  refine ⟨h.1.more hb (fun i hi => ?_), h.2.1.below hb, h.2.2.1, fun hx => ?_⟩
  · rcases hi with hi | rfl
    · exact ⟨(hX i hi).1.imp .inl id, (hX i hi).2⟩
    · exact ⟨.inl (.inr rfl), Nat.lt_of_lt_of_le hlt hb.size⟩
  · rcases (hX V hx).1 with h1 | h1
    · exact h.2.2.2 h1
    · omega
theorem Vlx.dlx (h : Vlx X w W B g T V M d t p) : Dlx X w W B g M d := by
  obtain ⟨N, k1, k4, k6, k7⟩ := h.1.dlx
  exact ⟨N, k1, fun i hi => ⟨(k4 i hi).1, fun hx => (k4 i hi).2 (.inl hx)⟩, fun i hi => k6 i (.inl hi), k7⟩
/-- What a save of a promise comes to. -/
def vsave (d : Dv) (t : Tv) (p q : Vv) : Dv × Tv × Vv × Int :=
  ((d.save (t.base + t.free * t.size) t.next q.text).1, t.after q.text (d.save (t.base + t.free * t.size) t.next q.text).2, (if (d.save (t.base + t.free * t.size) t.next q.text).2 = 0 then q else p), (d.save (t.base + t.free * t.size) t.next q.text).2)
/-- A twin that a save may be asked of. -/
structure Fit (d : Dv) (t : Tv) : Prop where
  p0 : 0 ≤ t.place
  p1 : t.place ≤ 1
  tb : t.base = 1
  ts : t.size = 1
  x0 : 0 < t.next
  x1 : t.next < 1000
  n : 3 ≤ d.n
theorem Vv.text_len (q : Vv) : q.text.length = 9 := by unfold Vv.text; rw [List.length_append, le_len, le_len]

set_option maxHeartbeats 4000000 in
theorem vsave_any (h : Vlx X w W B g T V M d t p) (hf : Fit d t) (hM : M ≤ 90000) (q : Vv) (hq : q.vote ≤ 1000) :
    Calls Try.prog 58 #[.pointer (some ⟨V, 0, none⟩), .agg #[.int .u64 (q.term : Int), .int .u64 (q.vote : Int)]] W fun e w' => e = .returned (.int .i64 (vsave d t p q).2.2.2) ∧ Vlx X w w' B g T V (M + 80) (vsave d t p q).1 (vsave d t p q).2.1 (vsave d t p q).2.2.1 ∧ Keeps (Off X w) W w' := by
  obtain ⟨W0, hW0⟩ : ∃ W0, W0 = W.alloc (.cells #[.int .u64 (q.term : Int), .int .u64 (q.vote : Int)] 85) := ⟨_, rfl⟩
  have hb0 : Below W.heap.size W W0 := by rw [hW0]; exact (Below.refl _ _).alloc (Nat.le_refl _) _
  have r0 : W0.heap[W.heap.size]? = some (.cells #[.int .u64 (q.term : Int), .int .u64 (q.vote : Int)] 85 (0, 0)) := by rw [hW0]; exact row_here _ _ rfl
  have hz0 : W0.heap.size = W.heap.size + 1 := by rw [hW0]; simp
  obtain ⟨Y, hY⟩ : ∃ Y : Nat → Prop, Y = fun i => X i ∨ i = W.heap.size := ⟨_, rfl⟩
  have hVW := h.vw.lt
  have hX0 := h.dlx
  have hXlt : ∀ i, X i → i < W.heap.size := by obtain ⟨N, _, _, h6, _⟩ := hX0; exact h6
  have hh : Vlx Y w W0 B g T V M d t p := h.more hb0 (fun i hi => by
    rw [hY] at hi
    rcases hi with hi | rfl
    · exact ⟨.inl hi, Nat.lt_of_lt_of_le (hXlt i hi) hb0.size⟩
    · exact ⟨.inr (Nat.le_refl _), by omega⟩)
  have hsz := h.bel.size
  -- what is a row of its own
  have key : ∀ i, i = W.heap.size ∨ i = V → ∀ j v W1, W0.cell? ⟨i, j, none⟩ = some v → Keeps (Off (fun i => Y i ∨ i = V) w) W0 W1 → W1.cell? ⟨i, j, none⟩ = some v := fun i hi j v W1 hc hk => hk.cell hc (fun ho => ho.2 (by
    rcases hi with rfl | rfl
    · left; rw [hY]; exact .inr rfl
    · exact .inr rfl))
  have c2 := hh.vw.c2
  have k0 := cell_of_row W0 _ 0 _ _ _ r0
  have k1 := cell_of_row W0 _ 1 _ _ _ r0
  simp at k0 k1
  have hS := fun (w1 : World) (hb1 : Below W0.heap.size W0 w1) (A : Option Addr) (c : Nat) (hr : Rd w1 w1.heap.size 1 A 9 c (u8s q.text)) =>
    tlx_save (hh.1.below hb1) hM A 9 c q.text hr (by omega) hf.p0 hf.p1 (by rw [hf.tb]; decide) (by rw [hf.tb]; decide) (by rw [hf.ts]; decide) (by rw [hf.ts]; decide) (by unfold Tv.room; rw [hf.ts]; decide) hf.x0 (by have := hf.x1; omega) (by rw [hf.tb, hf.ts]; have := hf.n; omega)
  have hpw := Dv.save_pw d (t.base + t.free * t.size) t.next q.text
  unfold vsave
  generalize hrr : d.save (t.base + t.free * t.size) t.next q.text = r at *
  obtain ⟨d1, f⟩ := r
  dsimp only at hS hpw ⊢
  have hTX := vtext_any q
  have HT := Lib.hid hTX
  have HS := Lib.hid hS
  have HW0 := Lib.hid hW0
  have HB0 := Lib.hid hb0
  have HH := Lib.hid hh
  have HK := Lib.hid key
  have HY := Lib.hid hY
  have HZ := Lib.hid (And.intro hz0 (And.intro hVW hsz))
  have HV := Lib.hid h.2.2
  have HXL := Lib.hid hXlt
  have HQ := Lib.hid hq
  generalize q.text = l at *
  obtain ⟨qt, qv⟩ := q
  dsimp only at *
  clear hTX hS hW0 hb0 hh key hY hz0 h hXlt hX0 hf hM hrr r0 hVW hsz hq
  go_enter Try.func58, Try.ntmps58
  go_upto_region 1 with (fail)
  rw [← HW0.out]
  refine wp_keeps (Off (fun i => Y i ∨ i = V) w) [([0, 1, 2, 3, 4], 5), ([], 6)] [7] (by kernel_rfl) (by kernel_rfl) (fun d _ _ _ _ h => by cases d <;> exact h) fun wd hbd => ?_
  intro f hf
  have d2 := fun z => HK.out V (.inr rfl) 2 _ _ c2 (hf z)
  have d3 := fun z => HK.out W.heap.size (.inl rfl) 0 _ _ k0 (hf z)
  have d4 := fun z => HK.out W.heap.size (.inl rfl) 1 _ _ k1 (hf z)
  simp only [pickI, Option.toList_some, List.cons_append, List.nil_append, List.getElem?_toArray, List.getElem?_cons_succ, List.getElem?_cons_zero]
  repeat (go_big_quiet_step (fail))
  refine wpQuiet_nil ?_
  clear d2 d3 d4 hf f
  refine seg_op (by simp only [List.getElem?_toArray, List.getElem?_cons_succ, List.getElem?_cons_zero]; rfl) fun KK hKK => ?_
  go_simp
  refine (HT.out _ HQ.out).mono ?_
  rintro e w1 ⟨A, c, rfl, hr1, hb1⟩
  have hb01 := hbd.trans (hb1.mono hbd.size)
  refine hKK.out _ _ (seg_keep (Keeps.of_below hb01) ?_)
  clear hKK KK
  intro f hf
  refine wpQuiet_nil ?_
  clear hf f
  refine seg_op (by simp only [List.getElem?_toArray, List.getElem?_cons_succ, List.getElem?_cons_zero]; rfl) fun KK hKK => ?_
  go_simp
  refine (HS.out _ hb01 A c hr1).mono ?_
  rintro e w2 ⟨rfl, hT2, hk2⟩
  have hk02 : Keeps (Off (fun i => Y i ∨ i = V) w) W0 w2 := (Keeps.of_below hb01).trans hk2 (fun i h => .inl h)
  refine hKK.out _ _ (seg_keep hk02 ?_)
  have k0 := HK.out W.heap.size (.inl rfl) 0 _ _ k0 hk02
  have k1 := HK.out W.heap.size (.inl rfl) 1 _ _ k1 hk02
  have hv2 : Vw w2 V (some ⟨T, 0, none⟩) p := hk02.row HH.out.2.1 (fun ho => ho.2 (.inr rfl))
  have e0 := hv2.c0
  have e1 := hv2.c1
  have f0 := frozen_of_row w2 V 0 _ _ hv2
  have f1 := frozen_of_row w2 V 1 _ _ hv2
  have HT2 := Lib.hid hT2
  have HV2 := Lib.hid hv2
  have hkX : Keeps (Off X w) W w2 := (Keeps.of_below HB0.out).trans hk02 (fun i h => .inl ⟨h.1, fun hx => h.2 (.inl (by rw [HY.out]; exact .inl hx))⟩)
  have HKX := Lib.hid hkX
  have HKY := Lib.hid hk02
  clear hKK KK hT2 hk2 hk02 hr1 hb1 hb01 hbd hv2 hkX
  intro f hf
  simp only [pickI, Option.toList_some, List.cons_append, List.nil_append, List.getElem?_toArray, List.getElem?_cons_succ, List.getElem?_cons_zero]
  repeat (go_big_quiet_step (fail))
  refine wpQuiet_nil ?_
  clear hf f
  -- X alone is asked of at the end
  have hXX : ∀ i, X i ∨ i = V → (Y i ∨ i = V) ∧ i < w2.heap.size := fun i hi => by
    have h2 := HKX.out.size
    rcases hi with hi | rfl
    · exact ⟨.inl (by rw [HY.out]; exact .inl hi), Nat.lt_of_lt_of_le (HXL.out i hi) h2⟩
    · exact ⟨.inr rfl, Nat.lt_of_lt_of_le HZ.out.2.1 h2⟩
  have HX2 := Lib.hid (HT2.out.more (X' := fun i => X i ∨ i = V) (Below.refl _ _) (fun i hi => ⟨.inl (hXX i hi).1, (hXX i hi).2⟩))
  clear hXX
  rcases hpw with rfl | rfl
  · go_wp2_with (fail)
    go_ret
    have hset0 := (keeps_set w2 V 0 (.int .u64 (qt : Int))).trans (keeps_set _ V 1 (.int .u64 (qv : Int))) (fun i h => .inl h)
    have hset : Keeps (fun i => (X i ∨ i = V) ∧ w.heap.size ≤ i) w2 ((w2.setCell ⟨V, 0, none⟩ (.int .u64 (qt : Int))).setCell ⟨V, 1, none⟩ (.int .u64 (qv : Int))) :=
      hset0.wide (fun i hi => by subst hi; exact ⟨.inr rfl, HV.out.1⟩)
    refine ⟨rfl, ⟨HX2.out.turn hset, ?_, HV.out⟩, HKX.out.trans hset0 (fun i hi => by subst hi; exact .inl HV.out)⟩
    · have r := setCell_row (i := 1) (v := .int .u64 (qv : Int)) (setCell_row (i := 0) (v := .int .u64 (qt : Int)) HV2.out)
      unfold Vw
      simp [vowRow] at r ⊢
      exact r
  · go_wp2_with (fail)
    go_ret
    exact ⟨rfl, ⟨HX2.out, HV2.out, HV.out⟩, HKX.out⟩
end
end Go.Proofs.Yteakdmabdfpiiaa
