/- Take. -/
import Derived.Test.YtlpckhjmbfeegaaCf
namespace Go.Proofs.Ytlpckhjmbfeegaa
open Go.RowKit
set_option maxRecDepth 20000
theorem drewN_below (w : World) (k : Nat) : Below w.heap.size w (w.drewN k) := ⟨rfl, rfl, rfl, Nat.le_refl _, fun _ _ => rfl⟩
theorem q_more {P : Program} {f : FuncId} {args : Array Value} {w : World} {a n : Nat} {v : Value} (c : ∀ z, Calls P f args (w.drewN z) fun e w' => e = .returned v ∧ w' = w.drewN z) :
    Calls P f args (w.drewN (a + n)) fun e w2 => e = .returned v ∧ ∃ m, w2 = w.drewN (a + m) := (c _).mono fun _ _ h => ⟨h.1, n, h.2⟩
theorem tm_le {t : Cv} {i y : Nat} (h : t.tm i = some y) : t.base ≤ i ∧ i ≤ t.last := by
  unfold Cv.tm at h
  split at h
  · next hb => subst hb; unfold Cv.last; omega
  · next hb =>
    by_cases h1 : i ≤ t.base
    · rw [at_none h1] at h; cases h
    · by_cases h2 : t.last < i
      · rw [at_far h2] at h; cases h
      · omega
theorem meets_le {t : Cv} {p q : Nat} (h : t.meets p q = true) : p ≤ t.last := by
  unfold Cv.meets at h
  rw [Bool.or_eq_true] at h
  rcases h with h | h
  · have := of_decide_eq_true h
    unfold Cv.last
    omega
  · exact (tm_le (of_decide_eq_true h)).2
theorem differ_at {t : Cv} {a k : Nat} {l : List It} {x : It} (h : l[k]? = some x) : t.differ a (l.drop k) = if t.tm (a + 1) = some x.tm then t.differ (a + 1) (l.drop (k + 1)) else some (a, l.drop k) := by
  obtain ⟨hi, rfl⟩ := List.getElem?_eq_some_iff.1 h
  rw [List.drop_eq_getElem_cons hi]
  rfl
theorem stop_cases (t : Cv) (k : Nat) (l : List It) : t.stop k l = 0 ∨ t.stop k l = 2 ∨ t.stop k l = 31 := by
  unfold Cv.stop
  split
  · exact .inr (.inr rfl)
  · split
    · exact .inl rfl
    · exact .inr (.inl rfl)
/-- What Take tells and makes. -/
def Takes (w : World) (B g : Nat) (v : Value) (t : Cv) (prev term : Nat) (l : List It) (e : Ending) (w' : World) : Prop := e = .returned (.tuple #[.int .u64 ((if t.takes prev term l then t.takeTo prev l else 0 : Nat) : Int), .bool (t.takes prev term l)]) ∧ Mv w B g v (t.take prev term l) w'
section
variable {w w' w1 : World} {B g : Nat} {v : Value} {t : Cv}
theorem Beside.drop {A : Option Addr} {n c k : Nat} {l : List It} (h : Beside w g v A n c l) (hk : k ≤ n) : Beside w g v (A.map (·.add (k * 3))) (n - k) (c - k) (l.drop k) :=
  ⟨h.rd.drop3 h.len hk, by rw [List.length_drop, h.len], by have := h.few; omega, fun hn b o hA => by
    cases A with
    | none => cases hA
    | some a =>
      obtain ⟨b', o', hA', _⟩ := h.rd.2.2.2 (by omega)
      cases hA'
      simp only [Option.map_some, addOff, Option.some.injEq, Addr.mk.injEq] at hA
      obtain ⟨rfl, _⟩ := hA
      exact h.sep (by omega) _ _ rfl⟩
set_option maxHeartbeats 4000000 in
theorem take_any (h : Ck w B g v t) (hB : B ≤ w.heap.size) (prev term : Nat) {A : Option Addr} {n c : Nat} {l : List It} (hl : Beside w g v A n c l) (hbd : t.last + n < 9000000000000000000) :
    Calls Try.prog 16 #[.pointer (some ⟨g, 0, none⟩), .int .u64 (prev : Int), .int .u64 (term : Int), .slice A n c] w (Takes w B g v t prev term l) := by
  obtain ⟨W, hW, hz, r0, r1, r2, hb⟩ := boxes3 w #[.pointer (some ⟨g, 0, none⟩)] #[.int .u64 (prev : Int)] #[.slice A n c] 26 22 31
  have h1 := h.below hb
  have hl1 := hl.keeps (Keeps.of_below hb)
  have HM := Lib.hid (matches_any h1 prev term)
  have b0 := cell_of_row W _ 0 _ _ _ r0
  have b1 := cell_of_row W _ 0 _ _ _ r1
  have b2 := cell_of_row W _ 0 _ _ _ r2
  have H1 := Lib.hid h1
  have HL1 := Lib.hid hl1
  have HB := Lib.hid hb
  have HBB := Lib.hid (Nat.le_trans hB hb.size)
  have HZ := Lib.hid hz
  have HBD := Lib.hid hbd
  have HFT := Lib.hid (fun j (hj : Foot g v j) => (h.foot hj).2)
  have HLN := Lib.hid hl.len
  have HFW := Lib.hid hl.few
  have HBL := Lib.hid h.bl
  clear h h1 hl hl1 hB r0 r1 r2
  cases hm : t.meets prev term with
  | false =>
    rw [hm] at HM
    have HT : Hid (t.takes prev term l = false ∧ t.take prev term l = t) := Lib.hid (by unfold Cv.takes Cv.take; rw [hm]; exact ⟨rfl, rfl⟩)
    clear hm hbd hz hb
    go_enter Try.func16, Try.ntmps16
    go_wp2_with (fail)
    refine wp_scope_rounds 0 ?_
    simp only [Nat.add_assoc, Nat.reduceAdd] at *
    rw [← hW]
    clear hW
    go_wp2_with (first
      | (go_at_call 43; refine HM.out.mono ?_; rintro e w2 ⟨rfl, hb2⟩; have HB2 := Lib.hid hb2; clear hb2)
      | fail)
    rw [lands_ret]
    go_ret2
    unfold Takes
    rw [HT.out.1, HT.out.2]
    exact ⟨rfl, Mv.after HB.out (Mv.same H1.out HB2.out)⟩
  | true =>
    rw [hm] at HM
    have hpl := meets_le hm
    have hlast : t.last < 9000000000000000000 := H1.out.bound
    have nI : (n : Int) ≤ 5000 := by have := HFW.out; omega
    have pI : (prev : Int) < 9000000000000000000 := by omega
    have bI : (t.base : Int) < 9000000000000000000 := by have := HBL.out; omega
    obtain ⟨N1, hN1⟩ : ∃ N1, N1 = prev + n := ⟨_, rfl⟩
    obtain ⟨T, hT⟩ : ∃ T, T = max N1 t.base := ⟨_, rfl⟩
    obtain ⟨a0, ha0⟩ : ∃ a0, a0 = max prev t.base := ⟨_, rfl⟩
    have wn : IntKind.u64.wrap (n : Int) = (n : Int) := u64w _ (by omega) (by omega)
    have wp : IntKind.u64.wrap ((prev : Int) + (n : Int)) = (N1 : Int) := by rw [u64w _ (by omega) (by omega)]; omega
    have m3 : max (N1 : Int) (t.base : Int) = (T : Int) := by omega
    have m2 : max (prev : Int) (t.base : Int) = (a0 : Int) := by omega
    have n1I : (N1 : Int) < 9100000000000000000 := by omega
    have HNN := Lib.hid (And.intro hN1 (And.intro hT ha0))
    have HTT : Hid (t.takeTo prev l = T) := Lib.hid (by unfold Cv.takeTo; rw [HLN.out, hT, hN1])
    have HPL := Lib.hid hpl
    have HLA := Lib.hid hlast
    have HMT := Lib.hid hm
    clear hN1 hT ha0 hpl hlast hbd hm hz hb
    go_enter Try.func16, Try.ntmps16
    go_wp2_with (fail)
    refine wp_scope_rounds 1 ?_
    simp only [Nat.add_assoc, Nat.reduceAdd] at *
    rw [← hW]
    clear hW
    go_wp2_with (first
      | (go_at_call 43; refine HM.out.mono ?_; rintro e w2 ⟨rfl, hb2⟩; have HB2 := Lib.hid hb2)
      | fail)
    have H2 := Lib.hid (H1.out.below hb2)
    have hqb := fun z => (base_any (H2.out.below (drewN_below w2 z))).mono (fun e w' h => (⟨h.1, h.2.symm⟩ : e = _ ∧ w' = w2.drewN z))
    have k0 : w2.cell? ⟨w.heap.size, 0, none⟩ = some (.pointer (some ⟨g, 0, none⟩)) := kept hb2 b0 (by have := HZ.out; omega)
    have k1 : w2.cell? ⟨w.heap.size + 1, 0, none⟩ = some (.int .u64 (prev : Int)) := kept hb2 b1 (by have := HZ.out; omega)
    have k2 : w2.cell? ⟨w.heap.size + 2, 0, none⟩ = some (.slice A n c) := kept hb2 b2 (by have := HZ.out; omega)
    clear hb2
    go_quiet ((go_at_call 26; exact Calls.quiet_of_same (hqb _)))
    go_wp2_with (fail)
    go_quiet ((go_at_call 26; exact q_more hqb))
    go_wp2_with (fail)
    clear hqb k0 k1 k2 m2 m3 wp wn
    go_loopw [12] (fun ar wr => ∃ a : Nat, ar = .int .u64 (a : Int) ∧ Hid (a0 ≤ a ∧ a ≤ T ∧ a ≤ t.last) ∧ Hid (t.left prev l = t.differ a (l.drop (a - prev))) ∧ Hid (Below W.heap.size W wr)) (fun ar _ => T - (intOf ar).toNat)
    case atStart =>
      obtain ⟨hN1, hT, ha0⟩ := HNN.out
      refine ⟨a0, rfl, Lib.hid ⟨Nat.le_refl _, by omega, ?_⟩, Lib.hid ?_, Lib.hid (HB2.out.trans (((drewN_below w2 _).trans (drewN_below (w2.drewN _) _)).mono HB2.out.size))⟩
      · have := HPL.out
        have hb : t.base ≤ t.last := by unfold Cv.last; omega
        omega
      · unfold Cv.left
        rw [← ha0]
    case round =>
      obtain ⟨a, rfl, HA, HE, HBR⟩ := hrel
      obtain ⟨hN1, hT, ha0⟩ := HNN.out
      have aI : (a : Int) < 9000000000000000000 := by have := HA.out; have := HLA.out; omega
      by_cases hlt : a < T
      · have d1 : decide ((a : Int) < (T : Int)) = true := by simpa using hlt
        obtain ⟨k, hk⟩ : ∃ k, k = a - prev := ⟨_, rfl⟩
        have hak : prev + k = a := by have := HA.out; omega
        have hkn : k < n := by have := HA.out; omega
        obtain ⟨x, hx⟩ : ∃ x, l[k]? = some x := ⟨_, List.getElem?_eq_getElem (by have := HLN.out; omega)⟩
        have hE := HE.out
        rw [← hk, differ_at hx] at hE
        have hck := H1.out.below HBR.out
        have hlr := HL1.out.keeps (Keeps.of_below HBR.out)
        have hS := same_any (p0 := w.heap.size) (p1 := w.heap.size + 2) (p2 := w.heap.size + 1) hck hlr.rd HLN.out HFW.out hx (prev := prev) (by have := HLA.out; have := HA.out; omega) (kept HBR.out b0 (by have := HZ.out; omega)) (kept HBR.out b2 (by have := HZ.out; omega)) (kept HBR.out b1 (by have := HZ.out; omega))
        rw [show prev + 1 + k = a + 1 by omega, show ((a + 1 : Nat) : Int) = (a : Int) + 1 by omega] at hS
        have HS := Lib.hid hS
        have HPA : Hid (prev ≤ a) := Lib.hid (by omega)
        have HAK := Lib.hid hak
        have HLR := Lib.hid hlr
        have HCK := Lib.hid hck
        have HKK := Lib.hid hk
        clear hS hck hlr hN1 hT ha0 hak hk
        by_cases hsm : t.tm (a + 1) = some x.tm
        · rw [decide_eq_true hsm] at HS
          rw [if_pos hsm] at hE
          have HE2 := Lib.hid hE
          have HSM := Lib.hid hsm
          clear hE hsm hx
          go_wp2_with (first
            | (go_at_call 44; refine HS.out.mono ?_; rintro e w3 ⟨rfl, hb3⟩)
            | fail)
          have hA := HA.out
          have hpa := HPA.out
          refine ⟨⟨a + 1, by go_num, Lib.hid ⟨by omega, by omega, (tm_le HSM.out).2⟩, Lib.hid (by rw [HE2.out, HKK.out, show a + 1 - prev = a - prev + 1 by omega]), Lib.hid (HBR.out.trans (hb3.mono HBR.out.size))⟩, by simp [intOf]; omega⟩
        · rw [decide_eq_false hsm] at HS
          rw [if_neg hsm] at hE
          have HE2 := Lib.hid hE
          clear hE hsm hx
          go_wp2_with (first
            | (go_at_call 44; refine HS.out.mono ?_; rintro e w3 ⟨rfl, hb3⟩)
            | fail)
          have HB3 := Lib.hid (HBR.out.trans (hb3.mono HBR.out.size))
          clear hb3
          have hck3 := H1.out.below HB3.out
          have hlr3 := (HL1.out.keeps (Keeps.of_below HB3.out)).drop (Nat.le_of_lt hkn)
          obtain ⟨b, o, rfl, _⟩ := HL1.out.rd.2.2.2 (by omega)
          simp only [Option.map_some, addOff] at hlr3
          have k0 : w3.cell? ⟨w.heap.size, 0, none⟩ = some (.pointer (some ⟨g, 0, none⟩)) := kept HB3.out b0 (by have := HZ.out; omega)
          have k1 : w3.cell? ⟨w.heap.size + 1, 0, none⟩ = some (.int .u64 (prev : Int)) := kept HB3.out b1 (by have := HZ.out; omega)
          have k2 : w3.cell? ⟨w.heap.size + 2, 0, none⟩ = some (.slice (some ⟨b, o, none⟩) n c) := kept HB3.out b2 (by have := HZ.out; omega)
          have HPU := Lib.hid (fun W3 (hW : W3 = w3.drew) => put_any (w := W3) (by subst hW; exact hck3.below (Below.refl _ _).drew) (by subst hW; exact Nat.le_trans HBB.out HB3.out.size) a (by have := HNN.out; have := HA.out; omega) (by have := HA.out; omega) (by subst hW; exact hlr3.keeps (Keeps.refl _ _).drew) (by have := HA.out; have := HBD.out; omega))
          have hcn : n ≤ c := HL1.out.rd.1
          have u1 : (a : Int) - (prev : Int) = (k : Int) := by have := HAK.out; omega
          have u2 : IntKind.u64.wrap ((a : Int) - (prev : Int)) = (k : Int) := by rw [u1]; exact u64w _ (by omega) (by omega)
          have hkI : (k : Int) ≤ (n : Int) := by omega
          have hck : ¬ c = k := by omega
          have hkc : k ≤ c := by omega
          have hkn2 : k ≤ n := by omega
          unfold Puts at HPU
          clear hck3 hlr3
          go_step3
          try simp only [go_sem]
          refine ⟨_, rfl, ?_⟩
          go_wp2_with (fail)
          refine wp_segs [([0, 1, 2, 3, 4, 5, 6], 7)] [8] (fun x => x.cell? ⟨w.heap.size, 0, none⟩ = some (.pointer (some ⟨g, 0, none⟩)) ∧ x.cell? ⟨w.heap.size + 1, 0, none⟩ = some (.int .u64 (prev : Int)) ∧ x.cell? ⟨w.heap.size + 2, 0, none⟩ = some (.slice (some ⟨b, o, none⟩) n c)) (by kernel_rfl) (by kernel_rfl) (fun d _ _ _ _ h => by cases d <;> exact h) ⟨k0, k1, k2⟩ ?_
          intro f hf
          have F0 := fun z => (hf z).1
          have F1 := fun z => (hf z).2.1
          have F2 := fun z => (hf z).2.2
          simp only [pickI, Option.toList_some, List.cons_append, List.nil_append, List.getElem?_toArray, List.getElem?_cons_succ, List.getElem?_cons_zero]
          try go_frame
          repeat (go_big_quiet_step (fail))
          refine wpQuiet_nil ?_
          clear hf f F0 F1 F2
          refine seg_op (by simp only [List.getElem?_toArray, List.getElem?_cons_succ, List.getElem?_cons_zero]; rfl) fun K hK => ?_
          go_simp
          refine (HPU.out w3.drew rfl).mono ?_
          rintro e w4 ⟨rfl, hm4⟩
          have HM4 := Lib.hid hm4
          have hk4 : Keeps (Foot g v) w3 w4 := by obtain ⟨_, _, hk, _⟩ := hm4; exact ⟨hk.os, hk.tape, hk.output, hk.size, hk.block⟩
          have HB5 : Hid (Below w.heap.size w w3.drew) := Lib.hid (HB.out.trans (HB3.out.drew.mono HB.out.size))
          refine hK.out _ _ (seg_keep ⟨keeps_cell hk4 k0 (fun hf => absurd (HFT.out _ hf) (by omega)), keeps_cell hk4 k1 (fun hf => absurd (HFT.out _ hf) (by omega)), keeps_cell hk4 k2 (fun hf => absurd (HFT.out _ hf) (by omega))⟩ ?_)
          clear hK K hm4 hk4
          try go_frame
          have HTK : Hid (t.takes prev term l = (t.stop a (l.drop k) == 0) ∧ t.take prev term l = t.put a (l.drop k)) := Lib.hid (by unfold Cv.takes Cv.take; rw [HMT.out, HE2.out]; exact ⟨rfl, rfl⟩)
          have hst3 := stop_cases t a (l.drop k)
          generalize t.stop a (l.drop k) = st at *
          rcases hst3 with rfl | rfl | rfl
          · skip
            intro q hq
            simp only [pickI, Option.toList_some, List.cons_append, List.nil_append, List.getElem?_toArray, List.getElem?_cons_succ, List.getElem?_cons_zero]
            go_big_quiet_step (fail)
            refine wpQuiet_nil ?_
            clear hq q
            go_wp2_with (fail)
            rw [lands_ret]
            go_ret2
            unfold Takes
            rw [HTK.out.1, HTK.out.2, HTT.out]
            exact ⟨rfl, Mv.after HB5.out HM4.out⟩
          · skip
            intro q hq
            simp only [pickI, Option.toList_some, List.cons_append, List.nil_append, List.getElem?_toArray, List.getElem?_cons_succ, List.getElem?_cons_zero]
            go_big_quiet_step (fail)
            refine wpQuiet_nil ?_
            clear hq q
            go_wp2_with (fail)
            rw [lands_ret]
            go_ret2
            unfold Takes
            rw [HTK.out.1, HTK.out.2]
            exact ⟨rfl, Mv.after HB5.out HM4.out⟩
          · skip
            intro q hq
            simp only [pickI, Option.toList_some, List.cons_append, List.nil_append, List.getElem?_toArray, List.getElem?_cons_succ, List.getElem?_cons_zero]
            go_big_quiet_step (fail)
            refine wpQuiet_nil ?_
            clear hq q
            go_wp2_with (fail)
            rw [lands_ret]
            go_ret2
            unfold Takes
            rw [HTK.out.1, HTK.out.2]
            exact ⟨rfl, Mv.after HB5.out HM4.out⟩
      · have d1 : decide ((a : Int) < (T : Int)) = false := by simpa using hlt
        have hTa : T = a := by have := HA.out; omega
        have hlE : t.left prev l = none := by
          rw [HE.out, List.drop_eq_nil_of_le (by rw [HLN.out]; have := HA.out; omega)]
          rfl
        have HTK : Hid (t.takes prev term l = true ∧ t.take prev term l = t) := Lib.hid (by unfold Cv.takes Cv.take; rw [HMT.out, hlE]; exact ⟨rfl, rfl⟩)
        clear hlE hTa hN1 hT ha0
        go_wp2_with (fail)
        rw [lands_ret]
        go_ret2
        unfold Takes
        rw [HTK.out.1, HTK.out.2, HTT.out]
        exact ⟨rfl, Mv.after HB.out (Mv.same H1.out HBR.out)⟩
end
end Go.Proofs.Ytlpckhjmbfeegaa
