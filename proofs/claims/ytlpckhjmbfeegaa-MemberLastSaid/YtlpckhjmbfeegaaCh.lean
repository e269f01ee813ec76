/- Cut, Clone. -/
import Derived.Test.YtlpckhjmbfeegaaCg
import Derived.Deep.DeepCutAuto
import Derived.Deep.CutBlock
namespace Go.Proofs.Ytlpckhjmbfeegaa
open Go.RowKit
set_option maxRecDepth 20000
section
variable {w w' w1 w2 : World} {B g : Nat} {v v1 : Value} {t t1 t2 : Cv}
theorem Mv.trans1 (m : Mv w1 B g v1 t2 w2) (h2 : Keeps (Foot g v) w w1) (h3 : v1.ownBlock = v.ownBlock ∨ ∀ q, v1.ownBlock = some q → w.heap.size ≤ q) : Mv w B g v t2 w2 := by
  obtain ⟨v2, q1, q2, q3⟩ := m
  refine ⟨v2, q1, h2.trans q2 (fun i hi => ?_), ?_⟩
  · rcases hi with hi | hi
    · exact .inl (.inl hi)
    · rcases h3 with h3 | h3
      · exact .inl (.inr (h3 ▸ hi))
      · exact .inr (h3 i hi)
  · rcases q3 with q3 | q3
    · rw [q3]; exact h3
    · exact .inr fun q hq => Nat.le_trans h2.size (q3 q hq)
theorem Ck.setOld (h : Ck w B g v t) (y : Nat) : Ck (w.setCell ⟨g, 1, none⟩ (.int .u64 (y : Int))) B g v { t with old := y } :=
  ⟨by rw [heap_setCell_same w g 1 _ _ _ h.row]; rfl, (Keeps.set w g 1 _).own h.own (fun q hq e => h.ne (by rw [hq, e])), h.lo, h.room, h.bound⟩
theorem Ck.setBase (h : Ck w B g v t) (y : Nat) (hy : y + t.l.length < 9000000000000000000) : Ck (w.setCell ⟨g, 0, none⟩ (.int .u64 (y : Int))) B g v { t with base := y } :=
  ⟨by rw [heap_setCell_same w g 0 _ _ _ h.row]; rfl, (Keeps.set w g 0 _).own h.own (fun q hq e => h.ne (by rw [hq, e])), h.lo, h.room, hy⟩
theorem own_base {w : World} {B B' n sz : Nat} {e : TypeId} {v : Value} {xs : List Value} (ho : w.ownsRow B e sz v n xs) (h : B' ≤ B) : w.ownsRow B' e sz v n xs := ownsRow_low ho h
set_option maxHeartbeats 1000000 in
theorem cut_any (h : Ck w B g v t) (hB : B ≤ w.heap.size) (b : Nat) : Calls Try.prog 18 #[.pointer (some ⟨g, 0, none⟩), .int .u64 (b : Int)] w fun e w' => e = .returned (.int .i64 (t.cutWhy b)) ∧ Mv w B g v (t.cut b) w' := by
  have HL := Lib.hid (last_any h)
  have HH := Lib.hid h
  have HB := Lib.hid hB
  unfold Cv.cutWhy Cv.cut
  by_cases h1 : t.last < b
  · rw [if_pos h1, if_pos h1]
    have d1 : decide ((t.last : Int) < (b : Int)) = true := by simpa using h1
    have d2 : decide (t.last < b) = true := by simpa using h1
    clear h
    go_enter Try.func18, Try.ntmps18
    go_wp2_with (first
      | (go_at_call 21; refine HL.out.mono ?_; rintro e w2 ⟨rfl, rfl⟩)
      | fail)
    go_ret
    exact ⟨rfl, Mv.same HH.out (Below.refl _ _)⟩
  · rw [if_neg h1, if_neg h1]
    have d1 : decide ((t.last : Int) < (b : Int)) = false := by simpa using h1
    have d2 : decide (t.last < b) = false := by simpa using h1
    have c0 := h.c0
    by_cases h2 : b ≤ t.base
    · rw [if_pos h2]
      have d3 : decide ((b : Int) ≤ (t.base : Int)) = true := by simpa using h2
      have d4 : decide (b ≤ t.base) = true := by simpa using h2
      clear h
      go_enter Try.func18, Try.ntmps18
      go_wp2_with (first
        | (go_at_call 21; refine HL.out.mono ?_; rintro e w2 ⟨rfl, rfl⟩)
        | fail)
      go_ret
      exact ⟨rfl, Mv.same HH.out (Below.refl _ _)⟩
    · rw [if_neg h2]
      have d3 : decide ((b : Int) ≤ (t.base : Int)) = false := by simpa using h2
      have d4 : decide (b ≤ t.base) = false := by simpa using h2
      have HT := Lib.hid (term_any h b)
      unfold Termed at HT
      have hTm : (t.tm b).getD 0 = t.term b := rfl
      rw [hTm] at HT
      clear hTm
      generalize t.term b = y at *
      have hbn : b ≤ t.last := by omega
      have HN := Lib.hid (show b + (t.from_ (b + 1)).length < 9000000000000000000 by
        have := h.bound
        unfold Cv.from_
        rw [List.length_drop]
        unfold Cv.last at *
        omega)
      have HN2 := Lib.hid (show (t.from_ (b + 1)).length ≤ 4096 by
        have := h.room
        unfold Cv.from_
        rw [List.length_drop]
        omega)
      have HN3 := Lib.hid (show t.base + (t.from_ (b + 1)).length < 9000000000000000000 by
        have := h.bound
        unfold Cv.from_
        rw [List.length_drop]
        unfold Cv.last at *
        omega)
      have HBN := Lib.hid hbn
      have bI : (b : Int) < 9000000000000000000 := by have := h.bound; omega
      clear h hbn h1
      go_enter Try.func18, Try.ntmps18
      go_wp2_with (first
        | (go_at_call 21; refine HL.out.mono ?_; rintro e w2 ⟨rfl, rfl⟩)
        | (go_at_call 23; refine HT.out.mono ?_; rintro e w2 ⟨rfl, hb2⟩
           have h2 := HH.out.below hb2
           have e1 := h2.c1
           have f1 := h2.fr 1
           have H2 := Lib.hid h2
           have HB2 := Lib.hid hb2
           clear h2 hb2)
        | fail)
      have h3 := H2.out.setOld y
      have hf3 := from_any h3 (b + 1) (by omega)
      rw [show ((b + 1 : Nat) : Int) = (b : Int) + 1 by omega] at hf3
      refine hf3.mono ?_
      rintro e w3 ⟨A3, c3, rfl, ho3, hb3⟩
      have h4 := h3.below hb3
      have f2 := h4.fr 2
      have e2 := h4.c2
      obtain ⟨W5, hW5⟩ : ∃ W5, W5 = w3.setCell ⟨g, 2, none⟩ (.slice A3 (t.from_ (b + 1)).length c3) := ⟨_, rfl⟩
      have hm5 := h3.items (Keeps.of_below hb3) (own_base ho3 (Nat.le_trans HB.out (Nat.le_trans HB2.out.size (Keeps.set w2 g 1 _).size))) (.inr fun q hq => (ho3.lt q hq).1) HN2.out HN3.out
      have hk3 : Keeps (Foot g v) w (w2.setCell ⟨g, 1, none⟩ (.int .u64 (y : Int))) := (Keeps.of_below HB2.out).trans (Keeps.set w2 g 1 _) (fun i hi => .inl (.inl hi))
      have hm6 := hm5.trans1 hk3 (.inl rfl)
      have hW5' : W5 = w3.setCell ⟨g, 2, none⟩ (.slice A3 (({ t with old := y } : Cv).from_ (b + 1)).length c3) := hW5
      rw [← hW5'] at hm6
      have HM6 := Lib.hid hm6
      obtain ⟨v6, h6, k6, o6⟩ := hm6
      have e0 := h6.c0
      have f0 := h6.fr 0
      have H6 := Lib.hid h6
      have K6 := Lib.hid k6
      have O6 := Lib.hid o6
      have HW5 := Lib.hid hW5'
      clear h3 hf3 h4 hm5 hk3 h6 k6 o6 hb3 ho3 hW5' e1 f1 c0 hW5
      go_upto_region 9 with (fail)
      rw [← HW5.out]
      go_wp2_with (fail)
      go_ret
      refine ⟨rfl, ⟨v6, H6.out.setBase b HN.out, K6.out.trans (Keeps.set W5 g 0 _) (fun i hi => .inl (.inl hi)), O6.out⟩⟩
/-- What Clone makes. -/
def Cloned (w : World) (t : Cv) (e : Ending) (w' : World) : Prop := ∃ g v, e = .returned (.pointer (some ⟨g, 0, none⟩)) ∧ Ck w' w.heap.size g v t ∧ Below w.heap.size w w'
theorem from_all (t : Cv) : t.from_ t.base = t.l := by
  unfold Cv.from_
  rw [show t.base - t.base - 1 = 0 by omega]
  rfl
set_option maxHeartbeats 1000000 in
theorem clone_any (h : Ck w B g v t) : Calls Try.prog 20 #[.pointer (some ⟨g, 0, none⟩)] w (Cloned w t) := by
  have HH := Lib.hid h
  have c0 := h.c0
  have c1 := h.c1
  have hg := h.lt
  have HBL := Lib.hid h.bl
  clear h
  go_enter Try.func20, Try.ntmps20
  go_wp2_with (fail)
  refine wp_grow [([0, 1, 2, 3, 4, 5, 6, 7, 8, 9, 10, 11, 12], 13), ([14], 15)] [16] (by kernel_rfl) (by kernel_rfl) (fun d _ _ _ _ h => by cases d <;> exact h) fun wd hbd => ?_
  intro q hq
  have F0 := fun z => ((hq z).cell (p := ⟨g, 0, none⟩) hg).trans c0
  have F1 := fun z => ((hq z).cell (p := ⟨g, 1, none⟩) hg).trans c1
  simp only [pickI, Option.toList_some, List.cons_append, List.nil_append, List.getElem?_toArray, List.getElem?_cons_succ, List.getElem?_cons_zero]
  try go_frame
  repeat (go_big_quiet_step (fail))
  refine wpQuiet_nil ?_
  clear hq q F0 F1
  refine seg_op (by simp only [List.getElem?_toArray, List.getElem?_cons_succ, List.getElem?_cons_zero]; rfl) fun K hK => ?_
  go_simp
  have hfr := from_any (HH.out.below hbd) t.base (by have := HBL.out; omega)
  rw [from_all] at hfr
  refine hfr.mono ?_
  rintro e w3 ⟨A3, c3, rfl, ho3, hb3⟩
  have HO3 := Lib.hid ho3
  have HB3 := Lib.hid (hbd.trans (hb3.mono hbd.size))
  have HBD := Lib.hid hbd.size
  refine hK.out _ _ (seg_keep HB3.out ?_)
  clear hK K ho3 hb3 hfr
  try go_frame
  intro q hq
  simp only [pickI, Option.toList_some, List.cons_append, List.nil_append, List.getElem?_toArray, List.getElem?_cons_succ, List.getElem?_cons_zero]
  repeat (go_big_quiet_step (fail))
  refine wpQuiet_nil ?_
  clear hq q
  refine seg_op (by simp only [List.getElem?_toArray, List.getElem?_cons_succ, List.getElem?_cons_zero]; rfl) fun K hK => ?_
  go_simp
  refine hK.out _ _ (seg_keep (HB3.out.alloc HB3.out.size _) ?_)
  clear hK K
  try go_frame
  intro q hq
  simp only [pickI, Option.toList_some, List.cons_append, List.nil_append, List.getElem?_toArray, List.getElem?_cons_succ, List.getElem?_cons_zero]
  repeat (go_big_quiet_step (fail))
  refine wpQuiet_nil ?_
  clear hq q
  go_wp2_with (fail)
  go_ret
  refine ⟨w3.heap.size, .slice A3 t.l.length c3, rfl, ⟨heap_alloc_new w3 _, ?_, HB3.out.size, HH.out.room, HH.out.bound⟩, HB3.out.alloc HB3.out.size _⟩
  exact (Keeps.of_below (F := fun _ => False) ((Below.refl w3.heap.size w3).alloc (Nat.le_refl _) _)).own (own_base HO3.out HBD.out) (fun _ _ h => h)
end
end Go.Proofs.Ytlpckhjmbfeegaa
