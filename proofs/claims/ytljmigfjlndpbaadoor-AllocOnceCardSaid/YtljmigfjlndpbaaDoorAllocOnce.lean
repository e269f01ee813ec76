/- AllocOnce: no place is taken twice, until it was given; what is told to be taken is, and was free; as many are free as were not taken, or given. For every number of places and every list of calls. -/
import Derived.Test.YtljmigfjlndpbaaDoorAmap
import Derived.Deep.DeepCutAuto
import Derived.Deep.CutBlock
import Derived.Test.YtljmigfjlndpbaaDoorMtie
import Derived.Test.YtljmigfjlndpbaaDoorCards
import Derived.Test.YtljmigfjlndpbaaDoorTie
namespace Go.Proofs.YtljmigfjlndpbaaDoor
open Go.RowKit

section
variable {a : Av} {k : Nat}
theorem give_says (a : Av) (i : Int) : ((a.give i).1 == 0) = a.has i := by
  unfold Av.give Av.has
  cases hin : inA a i
  · simp
  · cases hb : bitAt a.ws i.toNat <;> simp
theorem give_has (h : a.Ok k) (i : Int) : (fun y => if y = i then false else a.has y) = (a.give i).2.has := by
  funext y
  unfold Av.give
  cases hin : inA a i
  · simp only [if_true]
    by_cases hy : y = i
    · subst hy
      rw [if_pos rfl]
      unfold Av.has
      rw [hin]
      rfl
    · rw [if_neg hy]
  · obtain ⟨j, rfl, hj⟩ := inA_nat hin
    simp only [Bool.true_eq_false, if_false, Int.toNat_natCast]
    cases hb : bitAt a.ws j
    · simp only [Bool.false_eq_true, if_false]
      rw [has_flip h hj, hb]
    · simp only [if_true]
      by_cases hy : y = (j : Int)
      · subst hy
        rw [if_pos rfl]
        unfold Av.has
        rw [Int.toNat_natCast, hb]
        simp
      · rw [if_neg hy]
theorem give_free (h : a.Ok k) (i : Int) : (if a.has i then a.n - a.free - 1 else a.n - a.free) = a.n - (a.give i).2.free := by
  unfold Av.give Av.has
  have hle := free_le h
  cases hin : inA a i
  · simp
  · obtain ⟨j, rfl, hj⟩ := inA_nat hin
    simp only [Bool.true_eq_false, if_false, Int.toNat_natCast]
    have := free_flip h hj
    by_cases hb : bitAt a.ws j = true
    · simp [hb]
    · simp [hb] at this ⊢
      omega
theorem take_has (h : a.Ok k) {j : Nat} (hf : a.first = some j) : (fun y => if y = (j : Int) then true else a.has y) = (a.flip j).has := by
  have h1 := first_is h
  rw [hf] at h1
  funext y
  rw [has_flip h (first_lt h h1), h1.1]
theorem first_free (h : a.Ok k) {j : Nat} (hf : a.first = some j) : a.has (j : Int) = false ∧ (a.flip j).free + 1 = a.free ∧ j < a.n ∧ (a.flip j).has (j : Int) = true := by
  have h1 := first_is h
  rw [hf] at h1
  have hj := first_lt h h1
  have h2 := free_flip h hj
  rw [h1.1] at h2
  simp at h2
  refine ⟨?_, by omega, hj, ?_⟩
  · unfold Av.has
    rw [Int.toNat_natCast, h1.1]
    simp
  · rw [has_flip h hj, if_pos rfl]
    exact h1.1
theorem take_free (h : a.Ok k) {j : Nat} (hf : a.first = some j) : a.n - a.free + 1 = a.n - (a.flip j).free := by
  obtain ⟨_, h2, _⟩ := first_free h hf
  have h3 := free_le h
  omega
end
/-- Places, and a map of those that were taken. -/
structure On (w wr : World) (g R k M m : Nat) (a : Av) (n : Nat) : Prop where
  A : Alw wr g R k a
  B : BM wr M m a.has (n - a.free)
  sep : M ≠ g ∧ M ≠ R
  lo : w.heap.size ≤ R ∧ w.heap.size ≤ M
  bel : Below w.heap.size w wr
  hn : a.n = n
section
variable {w wr w1 : World} {g R k M m n : Nat} {a a' : Av}
theorem On.below (h : On w wr g R k M m a n) (hb : Below wr.heap.size wr w1) : On w w1 g R k M m a n :=
  ⟨h.A.below hb, h.B.below hb, h.sep, h.lo, h.bel.trans (hb.mono h.bel.size), h.hn⟩
theorem On.tab (h : On w wr g R k M m a n) (hT : Tab w) : Tab wr := hT.below h.bel
/-- Behind a call that turned the places, and a change of the map. -/
theorem On.next {w2 : World} {m' : Nat} (h : On w wr g R k M m a n) (hA : Alw w1 g R k a') (hg : wr.grownBy w1 (some R)) (hB : BM w2 M m' a'.has (n - a'.free)) (hg2 : w1.grownBy w2 (some M)) (hn : a'.n = a.n) : On w w2 g R k M m' a' n :=
  ⟨hA.far hg2 h.sep.1 h.sep.2, hB, h.sep, h.lo, (h.bel.grown hg h.bel.size (fun j e => by injection e with e; rw [← e]; exact h.lo.1)).grown hg2 (Nat.le_trans h.bel.size hg.size) (fun j e => by injection e with e; rw [← e]; exact h.lo.2), hn.trans h.hn⟩
end
theorem once_early (n : Int) (A : Option Addr) (n2 c2 : Nat) (w : World) (h : n < 1 ∨ 1000 < n ∨ 60 < n2) (hT : Tab w) :
    Calls Tryd.prog 4 #[.int .i64 n, .slice A n2 c2] w fun e w' => e = .returned (.bool true) ∧ Below w.heap.size w w' := by
  have HL := Lib.hid (lives13 w hT)
  clear hT
  by_cases h1 : n < 1
  · have d1 : decide (n < 1) = true := by simpa using h1
    clear h
    go_enter Tryd.func4, Tryd.ntmps4
    go_wp2_with (first
      | (go_at_call 6; refine HL.out.mono ?_; rintro e w3 ⟨rfl, hb3⟩)
      | fail)
    go_ret
    exact ⟨rfl, hb3⟩
  · have d1 : decide (n < 1) = false := by simpa using h1
    by_cases h2 : 1000 < n
    · have d2 : decide (1000 < n) = true := by simpa using h2
      clear h
      go_enter Tryd.func4, Tryd.ntmps4
      go_wp2_with (first
        | (go_at_call 6; refine HL.out.mono ?_; rintro e w3 ⟨rfl, hb3⟩)
        | fail)
      go_ret
      exact ⟨rfl, hb3⟩
    · have d2 : decide (1000 < n) = false := by simpa using h2
      have d3 : decide (60 < n2) = true := by simp; omega
      have d4 : ¬ n2 ≤ 60 := by omega
      have d5 : 60 < n2 := by omega
      have d6 : decide (60 < (n2 : Int)) = true := by simp; omega
      clear h
      go_enter Tryd.func4, Tryd.ntmps4
      go_wp2_with (first
        | (go_at_call 6; refine HL.out.mono ?_; rintro e w3 ⟨rfl, hb3⟩)
        | fail)
      go_ret
      exact ⟨rfl, hb3⟩
set_option maxHeartbeats 4000000 in
set_option maxRecDepth 8000 in
theorem once_late (n : Nat) (A : Option Addr) (n2 c2 : Nat) (ps : List (Int × Int)) (w : World) (h2 : Rd w w.heap.size 2 A n2 c2 (pairs ps)) (hps : ps.length = n2) (hwf : Hid (∀ p ∈ ps, (Lit.int .i64 p.2).wf = true)) (hn1 : 1 ≤ n) (hn : n ≤ 1000) (hn2 : n2 ≤ 60) (hT : Tab w) :
    Calls Tryd.prog 4 #[.int .i64 (n : Int), .slice A n2 c2] w fun e w' => e = .returned (.bool true) ∧ Below w.heap.size w w' := by
  have d0 : decide ((n : Int) < 1) = false := by simp; omega
  have d0' : decide (n < 1) = false := by simp; omega
  have d0'' : ¬ n < 1 := by omega
  have d1 : decide (60 < n2) = false := by simp; omega
  have d2 : decide (1000 < (n : Int)) = false := by simp; omega
  have d3 : decide (1000 < n) = false := by simp; omega
  have d4 : ¬ 60 < n2 := by omega
  have d5 : ¬ 1000 < n := by omega
  have HPS := Lib.hid hps
  have HN := Lib.hid (anew_any n w hn1 (by omega) hT.1)
  have HT := Lib.hid hT
  have HR0 := Lib.hid (show 1 ≤ n ∧ n ≤ 1000 from ⟨hn1, hn⟩)
  have H2 := Lib.hid h2
  have HN2 := Lib.hid hn2
  clear hps hT hn1 h2 hn hn2
  have hmm := @run_makeMap Tryd.prog
  go_enter Tryd.func4, Tryd.ntmps4
  go_wp2_with (first
    | (go_at_call 7; go_loud (refine HN.out.mono ?_); clear HN; rintro e w1 ⟨g, R, k, a0, rfl, hA0, hF0, hb0, hg0, hR0⟩)
    | fail)
  obtain ⟨M, hM⟩ : ∃ M, M = w1.heap.size := ⟨_, rfl⟩
  obtain ⟨W, hW⟩ : ∃ W, W = w1.alloc (.map #[] 0) := ⟨_, rfl⟩
  rw [← hM, ← hW]
  have HO : Hid (On w W g R k M 0 a0 n) := by
    have l0 := hA0.lt
    have s0 := hb0.size
    have hbW : Below w1.heap.size w1 W := by rw [hW]; exact (Below.refl _ _).alloc (Nat.le_refl _) _
    refine Lib.hid ⟨hA0.below hbW, ?_, by omega, by omega, hb0.trans (hbW.mono s0), hF0.1⟩
    rw [fresh_free hF0 hA0.ok, Nat.sub_self, show a0.has = (fun _ => false) from funext (fresh_has hF0), hW, hM]
    exact BM.made w1
  clear hA0 hF0 hb0 hg0 hR0 hM hW hmm
  go_loopw [30] (fun ir wr => ∃ i m a, i ≤ n2 ∧ ir = .int .i64 ((i : Nat) : Int) ∧ m ≤ i ∧ Hid (On w wr g R k M m a n)) (fun ir _ => n2 - (intOf ir).toNat)
  case atStart => exact ⟨0, 0, a0, Nat.zero_le _, rfl, Nat.le_refl _, HO⟩
  case round =>
    clear HO
    obtain ⟨i, m, a, hi, rfl, hm, HO⟩ := hrel
    have HM := Lib.hid hm
    clear hm
    by_cases hlt : i < n2
    · obtain ⟨⟨kd, nn⟩, hp⟩ : ∃ p, ps[i]? = some p := ⟨_, List.getElem?_eq_getElem (by rw [HPS.out]; exact hlt)⟩
      have hnn := Lib.hid (hwf.out _ (List.mem_of_getElem? hp))
      have hpg := pairs_get ps i (kd, nn) hp
      obtain ⟨bb, o, rfl, hbl, hcell⟩ := (H2.out.below HO.out.bel).2.2.2 (by omega)
      have c0 : wr.cell? ⟨bb, o + i * 2, none⟩ = some (.int .i64 kd) := hcell _ _ hpg.1
      have c1 : wr.cell? ⟨bb, o + i * 2 + 1, none⟩ = some (.int .i64 nn) := by rw [Nat.add_assoc]; exact hcell _ _ hpg.2
      clear hp hpg hcell
      have hb64 := hnn.out
      simp [Lit.wf, IntKind.min, IntKind.max, IntKind.signed, IntKind.bits] at hb64
      have HB64 := Lib.hid hb64
      clear hb64
      obtain ⟨p, hp⟩ : ∃ p, p = wr.heap.size := ⟨_, rfl⟩
      obtain ⟨W, hW⟩ : ∃ W, W = wr.alloc (.cells #[.int .i64 kd, .int .i64 nn] 30) := ⟨_, rfl⟩
      have HO2 : Hid (On w W g R k M m a n) := Lib.hid (HO.out.below (by rw [hW]; exact (Below.refl _ _).alloc (Nat.le_refl _) _))
      have HBX : Hid (Bx W p kd nn) := Lib.hid (by rw [hW, hp]; exact heap_alloc_new wr _)
      have HPN : Hid (p ≠ R ∧ p ≠ M) := Lib.hid (by have := HO.out.A.lt; have := HO.out.B.lt; omega)
      have HWW := Lib.hid hW
      have HPP := Lib.hid hp
      clear hp hW
      by_cases k3 : kd = 3
      · have e3 : (kd == 3) = true := by simpa using k3
        clear k3
        go_wp2_with (fail)
        rw [← HWW.out, ← HPP.out]
        clear HWW HPP
        refine wp_segs [([0, 1, 2, 5, 6, 7, 8], 3)] [4, 9] (fun x => x.cell? ⟨p, 1, none⟩ = some (.int .i64 nn) ∧ BM x M m a.has (n - a.free)) (by kernel_rfl) (by kernel_rfl) (fun d _ _ _ _ h => by cases d <;> exact h) ⟨HBX.out.c1, HO2.out.B.below (Below.refl _ _).drew⟩ ?_
        intro f hf
        have F1 : ∀ z, (f z).cell? ⟨p, 1, none⟩ = some (.int .i64 nn) := fun z => (hf z).1
        have F2 := fun z => (hf z).2.look (x := nn) HB64.out
        simp only [pickI, Option.toList_some, List.cons_append, List.nil_append, List.getElem?_toArray, List.getElem?_cons_succ, List.getElem?_cons_zero]
        repeat (go_big_quiet_step (fail))
        refine wpQuiet_nil ?_
        clear F1 F2 hf f
        refine seg_op (by simp only [List.getElem?_toArray, List.getElem?_cons_succ, List.getElem?_cons_zero]; rfl) fun K hK => ?_
        go_simp
        have HO3 := Lib.hid (HO2.out.below (Below.refl _ _).drew)
        have HB3 : Hid (Bx W.drew p kd nn) := Lib.hid (HBX.out.below (Below.refl _ _).drew)
        clear HO2 HBX
        generalize W.drew = w2 at *
        have hgs := give_says a nn
        refine (agive_any HO3.out.A nn HB64.out.1 HB64.out.2).mono ?_
        rintro e w3 ⟨rfl, hA3, hg3⟩
        have HA3 := Lib.hid hA3
        have HG3 := Lib.hid hg3
        have HM3 := Lib.hid (HO3.out.B.kept hg3 (fun e => HO3.out.sep.2 (by injection e)))
        have HX3 := Lib.hid (HB3.out.far hg3 HPN.out.1)
        have HGF := Lib.hid (give_free HO3.out.A.ok nn)
        have HGH := Lib.hid (give_has HO3.out.A.ok nn)
        have HGN := Lib.hid (give_n a nn)
        have HAN := Lib.hid HO3.out.hn
        refine hK.out _ _ ⟨_, ⟨HX3.out.c1, HM3.out⟩, fun _ h => h, ?_⟩
        clear hK K hA3 hg3
        generalize hbb : a.has nn = bb at *
        have HBB := Lib.hid hbb
        clear hbb
        generalize (a.give nn).1 = e1 at *
        generalize (a.give nn).2 = a' at *
        have q1 : (bb != bb) = false := bne_self_eq_false _
        intro f hf
        simp only [pickI, Option.toList_some, List.cons_append, List.nil_append, List.getElem?_toArray, List.getElem?_cons_succ, List.getElem?_cons_zero]
        repeat (go_big_quiet_step (fail))
        refine wpQuiet_nil ?_
        clear hf f
        have c1' := HX3.out.c1
        go_wp2_with (first
          | (at_delete; go_loud (refine wpL_bmdel rfl (.tmp 47) (.tmp 49) rfl rfl rfl HM3.out HB64.out ?_); intro w4 hB4 hg4)
          | fail)
        go_roundw
        case rel =>
          refine ⟨i + 1, m, a', by omega, by go_num, by have := HM.out; omega, Lib.hid (HO3.out.next HA3.out HG3.out ?_ hg4.out HGN.out)⟩
          have := hB4.out
          rw [HGH.out, HBB.out, ← HAN.out, HGF.out] at this
          rw [← HAN.out]
          exact this
        case measure => simp [intOf]; omega
      · have e3 : (kd == 3) = false := by simpa using k3
        clear k3
        have HTW := Lib.hid (HO2.out.tab HT.out)
        cases hf : a.first with
        | none =>
          have HTk := Lib.hid (atake_is HO2.out.A HTW.out (show a.take = ((0, 31), a) by unfold Av.take; rw [hf]))
          have HFR := Lib.hid (none_free HO2.out.A.ok hf)
          clear hf
          have qn : ((n : Int) == (n : Int)) = true := beq_self_eq_true _
          go_wp2_with (first
            | (go_at_call 9; rw [← HWW.out]; go_loud (refine HTk.out.mono ?_); clear HTk; rintro e w3 ⟨rfl, hA3, hg3⟩;
               have hM3 := HO2.out.B.kept hg3 (fun e => HO2.out.sep.2 (by injection e)); rw [HFR.out, Nat.sub_zero] at hM3; have hlen := hM3.len;
               have HA3 := Lib.hid hA3; have HG3 := Lib.hid hg3; clear hA3 hg3 hM3)
            | (go_at_call 19; go_loud (refine (show Calls _ _ _ _ (fun e w' => e = .returned (.int .i64 0) ∧ Below w3.heap.size w3 w') from by have h0 := afree_any HA3.out; rw [HFR.out] at h0; exact h0).mono ?_); rintro e w4 ⟨rfl, hb4⟩)
            | (go_at_call 6; go_loud (refine (lives13 w4 ((HTW.out.grown HG3.out HO2.out.A.pos.2).below hb4)).mono ?_); rintro e w5 ⟨rfl, hb5⟩)
            | fail)
          go_ret
          have h3 : Below w.heap.size w w3 := HO2.out.bel.grown HG3.out HO2.out.bel.size (fun j e => by injection e with e; rw [← e]; exact HO2.out.lo.1)
          have h4 := h3.trans (hb4.mono h3.size)
          exact ⟨rfl, h4.trans (hb5.mono h4.size)⟩
        | some j =>
          have HTk := Lib.hid (atake_is HO2.out.A HTW.out (show a.take = (((j : Int), 0), a.flip j) by unfold Av.take; rw [hf]))
          obtain ⟨hh1, hh2, hh3, hh4⟩ := first_free HO2.out.A.ok hf
          have HTH := Lib.hid (take_has HO2.out.A.ok hf)
          have HTF := Lib.hid (take_free HO2.out.A.ok hf)
          have HH1 := Lib.hid hh1
          have HH2 := Lib.hid hh2
          have hjn : j < n := by have := HO2.out.hn; omega
          have HH4 := Lib.hid hh4
          have HJ := Lib.hid hjn
          have hkj : Key (j : Int) := by have := HR0.out.2; unfold Key; omega
          have HK := Lib.hid hkj
          have t1 : decide ((j : Int) < 0) = false := by simp
          have t2 : decide ((n : Int) ≤ (j : Int)) = false := by simp; omega
          have t3 : decide (n ≤ j) = false := by simp; omega
          have t4 : ¬ n ≤ j := by omega
          have HFN := Lib.hid (show a.free ≤ n by have h1 := free_le HO2.out.A.ok; have h2 := HO2.out.hn; omega)
          have HMM := Lib.hid (show m < maxLen by have h1 := HM.out; have h2 := HN2.out; unfold maxLen; omega)
          clear hf hh1 hh2 hh3 hh4 hjn hkj
          go_wp2_with (first
            | (go_at_call 9; rw [← HWW.out]; go_loud (refine HTk.out.mono ?_); clear HTk; rintro e w3 ⟨rfl, hA3, hg3⟩;
               have hM3 := HO2.out.B.kept hg3 (fun e => HO2.out.sep.2 (by injection e)); have hlk := hM3.look HK.out; rw [HH1.out] at hlk;
               have HM3 := Lib.hid hM3; have HA3 := Lib.hid hA3; have HG3 := Lib.hid hg3; clear hA3 hg3 hM3)
            | (go_at_call 22; go_loud (refine (show Calls _ _ _ _ (fun e w' => e = .returned (.bool true) ∧ Below w3.heap.size w3 w') from by have h0 := ahas_any HA3.out (j : Int) HK.out.1 HK.out.2; rw [HH4.out] at h0; exact h0).mono ?_); rintro e w4 ⟨rfl, hb4⟩; have HB4 := Lib.hid hb4; have HM4 := Lib.hid (HM3.out.below hb4); clear hb4)
            | (go_loud (refine wpL_bmput rfl (.tmp 87) (.tmp 88) (.const (.bool true)) rfl rfl rfl rfl HM4.out HMM.out HK.out ?_); intro w5 hB5 hg5)
            | fail)
          have HO5 : Hid (On w w5 g R k M (m + 1) (a.flip j) n) := by
            have h5 := hB5.out
            rw [HH1.out] at h5
            simp only [Bool.false_eq_true, if_false] at h5
            have e1 := HTF.out
            rw [HO2.out.hn] at e1
            rw [HTH.out, e1] at h5
            exact Lib.hid (HO2.out.next (HA3.out.below HB4.out) (grownBy_trans HG3.out (below_grown HB4.out (some R)) (.inl rfl)) h5 hg5.out rfl)
          have HF5 := Lib.hid (show (a.flip j).free ≤ n by have h1 := HH2.out; have h2 := HFN.out; omega)
          clear hB5 hg5 hlk t1 t2 t3 t4
          obtain ⟨F, hF⟩ : ∃ F, F = (a.flip j).free := ⟨_, rfl⟩
          obtain ⟨c, hc⟩ : ∃ c, c = n - (a.flip j).free := ⟨_, rfl⟩
          have HFr := Lib.hid (show Calls _ _ _ _ (fun e w' => e = .returned (.int .i64 (F : Int)) ∧ Below w5.heap.size w5 w') from by rw [hF]; exact afree_any HO5.out.A)
          have HLn := Lib.hid (fun (w6 : World) (hb : Below w5.heap.size w5 w6) => (show ∀ ty, (Builtin.len_ #[48] ty #[.map (some M)]).run Tryd.prog w6 = .ok (.int .i64 (c : Int)) w6 from by rw [hc]; exact (HO5.out.B.below hb).len))
          have hn3 : (n : Int) ≤ 1000 := by have := HR0.out.2; omega
          have hc3 : (c : Int) ≤ 1000 := by omega
          have q5 : ((F : Int) != (n : Int) - (c : Int)) = false := by
            have h1 := HF5.out
            have : (F : Int) = (n : Int) - (c : Int) := by omega
            rw [this]
            exact bne_self_eq_false _
          clear hF hc
          go_wp2_with (first
            | (go_at_call 19; go_loud (refine HFr.out.mono ?_); clear HFr; rintro e w6 ⟨rfl, hb6⟩; have hlen := HLn.out _ hb6; have HB6 := Lib.hid hb6; clear hb6)
            | fail)
          go_roundw
          case rel => exact ⟨i + 1, m + 1, a.flip j, by omega, by go_num, by have := HM.out; omega, Lib.hid (HO5.out.below HB6.out)⟩
          case measure => simp [intOf]; omega
    · obtain rfl : i = n2 := by omega
      have HLV := Lib.hid (lives13 wr (HO.out.tab HT.out))
      go_wp2_with (first
        | (go_at_call 6; refine HLV.out.mono ?_; rintro e w3 ⟨rfl, hb3⟩)
        | fail)
      go_ret
      exact ⟨rfl, HO.out.bel.trans (hb3.mono HO.out.bel.size)⟩
theorem allocOnce_walk {w : World} (n : Int) (_hn : (Lit.int .i64 n).wf = true) (A : Option Addr) (n2 c2 : Nat) (ps : List (Int × Int)) (h2 : Rd w w.heap.size 2 A n2 c2 (pairs ps)) (hps : ps.length = n2 ∧ ∀ p ∈ ps, (Lit.int .i64 p.2).wf = true) (hT : Tab w) :
    Calls Tryd.prog 4 #[.int .i64 n, .slice A n2 c2] w fun e w' => e = .returned (.bool true) ∧ Below w.heap.size w w' := by
  by_cases h : n < 1 ∨ 1000 < n ∨ 60 < n2
  · exact once_early n A n2 c2 w h hT
  · obtain ⟨m, rfl⟩ : ∃ m : Nat, n = (m : Int) := ⟨n.toNat, by omega⟩
    exact once_late m A n2 c2 ps w h2 hps.1 (Lib.hid hps.2) (by omega) (by omega) (by omega) hT
namespace allocOnce
open Go.ChangeShapes Go.WideShapes Go.ChangeAt
set_option maxRecDepth 100000 in
theorem lifted (os : Os) (started : os.Started) (H : Type) (enc : TypeId × Value → H) :
    ReturnsInHanded {} Tryd.checked os 4 .any (fun w args => (Rows.allocOnceSpec.pre enc Tryd.prog Tryd.f4 [] false w args ∧ laidMetH Tryd.prog laidL w) ∧ sizedMet enc Tryd.prog Tryd.f4 (OpenSpec.ofChange Rows.allocOnceSpec) false w args)
      (Rows.allocOnceSpec.post enc Tryd.prog Tryd.f4 false true false false) := by
  refine returnsInHanded_of_change_and (C := Tryd.checked) (X := fun w _ => laidMetH Tryd.prog laidL w) (fun _ _ _ hh h => h.of_heap hh) own started (by kernel_rfl) Tryd.func4
    (ChangeSpec.witness_shaped (enc := enc) (C := Tryd.checked) (os := os) (X := fun w _ => laidMetH Tryd.prog laidL w) false (World.doorLaid Tryd.prog 400 os) #[.int .i64 0, .slice none 0 0] 8 rfl (World.shaped_of_RefB (by kernel_rfl) (by kernel_rfl)) (by kernel_rfl) (by kernel_rfl) (by kernel_rfl) (door_met os _)) ?_
  intro W base args ds gs before hval0 hW _ _ hL _
  have hval : ∀ (j : Nat) t v, Tryd.f4.params[j]? = some t → args[j]? = some v → Value.okWide Tryd.prog W .any base t v := hval0
  have hW' := hW
  obtain ⟨p, q, hA0, hV, rfl, hfz, hnd⟩ := hW
  have hA : DataW.TrodAll enc Tryd.prog W 0 (fun _ => true) true Tryd.f4.params.toList args.toList ds p := hA0
  rw [Tryd.params4] at hA hval
  obtain ⟨v0, vs0, d0, ds0, p0, q0, hargs, rfl, rfl, h0, r0⟩ := trodAll_cons hA
  obtain ⟨v1, vs1, d1, ds1, p1, q1, rfl, rfl, rfl, h1, r1⟩ := trodAll_cons r0
  obtain ⟨rfl, rfl, rfl⟩ := trodAll_nil r1
  obtain rfl : args = #[v0, v1] := by cases args; simp_all
  obtain ⟨rfl, rfl⟩ := trodVars_none hV
  have k0 := h0
  have lt0 : ∀ x ∈ p0, x.block < W.heap.size := by obtain ⟨m, hm⟩ := k0; exact DataW.trod_lt m _ _ _ hm
  obtain ⟨x0, rfl, w0⟩ := dec_int Tryd.underlying3 (hval 0 3 v0 rfl rfl) h0
  have k1 := h1
  have lt1 : ∀ x ∈ p1, x.block < W.heap.size := by obtain ⟨m, hm⟩ := k1; exact DataW.trod_lt m _ _ _ hm
  obtain ⟨a1, n1, c1, l1, rfl, w1, b1⟩ := dec_pairs2 Tryd.underlying22 Tryd.underlying30 (by kernel_rfl) (by kernel_rfl) Tryd.underlying3 Tryd.underlying3 (hval 1 22 v1 rfl rfl) h1
  clear hA0 hval0
  have hT := of_laid hL
  refine (allocOnce_walk x0 w0 a1 n1 c1 l1 w1 b1 hT).mono fun e W' ⟨he, bel⟩ => ?_
  subst he
  exact ⟨_, rfl, _, _, _, [], _, [], hW', trodAll_mk1 (shut_bool Tryd.underlying4 _), (trodAll_cons_mk (Below.trod laidOut (by kernel_rfl) (of_decide_eq_true (by kernel_rfl)) k0 bel lt0) (trodAll_cons_mk (Below.trod laidOut (by kernel_rfl) (of_decide_eq_true (by kernel_rfl)) k1 bel lt1) trodAll_mk0)), rfl, bel.frame _, fun h => by cases h⟩

theorem over : Rows.allocOnceRow.holds Tryd.pinned (OpenSpec.ofChange Rows.allocOnceSpec) :=
  OpenClaim.holds_of_wide 4 Tryd.f4 rfl rfl rfl rfl rfl rfl rfl ⟨rfl, rfl, rfl, rfl, rfl⟩ rfl rfl rfl rfl rfl (by kernel_rfl) Tryd.func4 (by kernel_rfl)
    (of_decide_eq_true (by kernel_rfl)) (by unfold Func.isWrapper; first | (rw [if_pos (by decide +kernel)]; kernel_rfl) | (rw [if_neg (by decide +kernel)]; exact ⟨rfl, rfl⟩))
    (fun os started H enc _ => lifted os started H enc)
theorem row_tie : Rows.allocOnceRow.laidByTextAt .later Tryd.pinned [.data] true := allocOnce_row_tie
/-- The given statement: the card. -/
theorem proved : Rows.AllocOnceCardSaid :=
  Claim7.holds_tied_plain_at .later [] [.data] true Rows.allocOnceCard.stood.harness false
    over (fun _ h => by cases h) (by kernel_rfl) (fun _ h => by cases h) row_tie rfl ⟨rfl, rfl⟩ (by kernel_rfl) rfl
    (fun f fn hf hfn => by
      obtain rfl : f = 4 := Option.some.inj ((show Tryd.prog.funcNamed Rows.allocOnceRow.func = some 4 by kernel_rfl).symm.trans hf) |>.symm
      obtain rfl : fn = Tryd.f4 := (Option.some.inj (Tryd.func4.symm.trans hfn)).symm
      exact ⟨by kernel_rfl, fun j t ht => by
        rw [Tryd.params4] at ht
        have hm : t ∈ [3, 22] := by simpa using Array.mem_of_getElem? ht
        have hall : ([3, 22].all fun u => !Tryd.prog.wantsStandIn u) = true := by kernel_rfl
        exact (show Tryd.prog.wantsStandIn t = false by simpa using List.all_eq_true.1 hall t hm)⟩)
    (by kernel_rfl)
end allocOnce

end Go.Proofs.YtljmigfjlndpbaaDoor
