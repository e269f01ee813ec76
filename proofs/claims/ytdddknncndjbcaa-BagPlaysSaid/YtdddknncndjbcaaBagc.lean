/- Clone of a bag. -/
import Derived.Test.YtdddknncndjbcaaBagi
namespace Go.Proofs.Ytdddknncndjbcaa
open Go.RowKit
attribute [local go_sem] Oper.semAt_some

/-- What Clone makes. -/
def Cloned (w : World) (t : Bv) (e : Ending) (w' : World) : Prop := ∃ g v, e = .returned (.pointer (some ⟨g, 0, none⟩)) ∧ Bg w' w.heap.size g v t ∧ Below w.heap.size w w'
/-- The clone, and the box that names it, ahead of the loop. -/
structure CC (w W : World) (cb g : Nat) (t : Bv) : Prop where
  box : W.heap[cb]? = some (.cells #[.pointer (some ⟨g, 0, none⟩)] 24 (0, 0))
  bag : Bg W w.heap.size g (.slice none 0 0) ⟨[], t.most, t.lost⟩
  bel : Below w.heap.size w W
  lo : w.heap.size ≤ cb
  ne : cb ≠ g
/-- Between two rounds: k things have come. -/
structure CJ (w0 w W : World) (g : Nat) (t : Bv) (k : Nat) : Prop where
  bag : ∃ v, Bg W w0.heap.size g v ⟨t.l.take k, t.most, t.lost⟩ ∧ ∀ q, v.ownBlock = some q → w.heap.size + 2 ≤ q
  kp : Keeps (fun i => i = g ∨ w.heap.size ≤ i) w W
theorem CJ.robust {w0 w : World} {g : Nat} {t : Bv} (hg : g < w.heap.size) (k : Nat) : Robust w.heap.size (fun W => CJ w0 w W g t k) := by
  rintro W r o ⟨⟨v, h1, h2⟩, h3⟩ hr hlt
  have hgr := grownBy_putObj' W r o
  refine ⟨⟨v, h1.keeps (F := fun i => i = r) ((Keeps.refl _ _).grown hgr (fun k e => .inl (Option.some.inj e).symm)) ?_, h2⟩, h3.grown hgr (fun q e => .inl (.inr (by have := Option.some.inj e; omega)))⟩
  rintro i (rfl | hi) e
  · omega
  · have := h2 i hi
    omega
set_option maxHeartbeats 4000000 in
set_option maxRecDepth 8000 in
theorem bclone_any {w : World} {B g : Nat} {v : Value} {t : Bv} (h : Bg w B g v t) (hl : t.lost < 1000000) : Calls Try.prog 11 #[.pointer (some ⟨g, 0, none⟩)] w (Cloned w t) := by
  have c1 := h.c1
  have c2 := h.c2
  have hgl := h.lt
  have HH := Lib.hid h
  have HLO := Lib.hid hl
  clear h hl
  refine (callsIn_wide (n := 9)).1 ?_
  refine callsIn_of_wp_marks Try.func11 rfl trivial ?_ rfl
  simp only [Try.ntmps11, List.size_toArray, List.length_nil, List.length_cons, Nat.reduceAdd, Nat.reduceSub, Array.replicate_succ, Array.replicate_zero, List.push_toArray, List.append_toArray, List.nil_append, List.cons_append]
  gi_wp2
  refine wpIn_wide.2 ?_
  rename_i K hKK
  have key : ∀ cb g' W, CC w W cb g' t → K { tmps := #[.pointer (some ⟨g, 0, none⟩), undef, .pointer none, .pointer (some ⟨cb, 0, none⟩), undef, .pointer (some ⟨g, 0, none⟩), .bool false, .pointer (some ⟨g, 0, none⟩), .pointer (some ⟨g, 0, none⟩), .pointer (some ⟨g, 1, none⟩), .int .i64 (t.most : Int), .pointer (some ⟨g, 0, none⟩), .pointer (some ⟨g, 0, none⟩), .pointer (some ⟨g, 2, none⟩), .int .u64 (t.lost : Int), .agg #[.slice none 0 0, .int .i64 (t.most : Int), .int .u64 (t.lost : Int)], .pointer (some ⟨g', 0, none⟩), undef, undef, undef, undef, undef, undef, undef], defers := [] } W := by
    intro cb g' W hC
    refine hKK _ _ ?_
    clear hKK
    have HB := Lib.hid (HH.out.below hC.bel)
    have HA := Lib.hid (all_any HB.out)
    gi_wp2_with (first
      | (refine ⟨trivial, ?_⟩; gi_at_call 20; refine (callsIn_wide.2 HA.out).mono ?_; clear HA; rintro e w2 ⟨A2, cc, rfl, hr2, hd2, hb2⟩)
      | fail)
    have hB0 : Bg w2 w.heap.size g' (.slice none 0 0) ⟨[], t.most, t.lost⟩ := hC.bag.below hb2
    have hcb := row_below hC.box hb2
    have hlt : g' < W.heap.size ∧ cb < W.heap.size := ⟨hC.bag.lt, (Array.getElem?_eq_some_iff.1 hC.box).1⟩
    have hsz2 := (Array.getElem?_eq_some_iff.1 hr2).1
    have hbw : Below w.heap.size w w2 := hC.bel.trans (hb2.mono hC.bel.size)
    have hwW := hC.bel.size
    have hJ0 : CJ w w2 w2 g' t 0 := ⟨⟨_, hB0, fun q hq => by cases hq⟩, Keeps.refl _ _⟩
    have hgne : g' ≠ cb := fun e => hC.ne e.symm
    have hbox : ∀ k W', CJ w w2 W' g' t k → W'.cell? ⟨W.heap.size, 0, none⟩ = some (.slice A2 t.l.length cc) ∧ Rd W' W'.heap.size 1 A2 t.l.length cc (is t.l) ∧ W'.cell? ⟨cb, 0, none⟩ = some (.pointer (some ⟨g', 0, none⟩)) := by
      intro k W' hJ
      refine ⟨cell_of_row W' _ 0 _ _ _ (hJ.kp.row hr2 (by omega)), ownsRow_rd (hJ.kp.own hd2 (fun q hq hF => ?_)), cell_of_row W' _ 0 _ _ _ (hJ.kp.row hcb (by omega))⟩
      have := hd2.lt q hq
      omega
    have HBX := Lib.hid hbox
    have HJ0 := Lib.hid hJ0
    have HBW := Lib.hid hbw
    have HT := Lib.hid (And.intro HH.out.room HH.out.most)
    clear hbox hJ0 hbw hB0 hcb hr2 hd2 hC HB
    refine wpIn_rangeJ rfl (by omega) (gf := 22) (lb := #[.pointer (some ⟨W.heap.size, 0, none⟩)]) rfl trivial (enters_of Try.func22 (by kernel_rfl) rfl)
      (encs := fun x : Int => #[.int .i64 x]) (fun _ => rfl)
      (fun k W' => CJ w w2 W' g' t k) (fun k x W' => x = t.l.getD k 0 ∧ CJ w w2 W' g' t k)
      (fun _ _ => False) t.l.length ?hJ ?hJ' (fun _ _ _ _ h _ _ => h) ?h0 ?hiter
      (fun x => { tmps := #[.pointer (some ⟨g, 0, none⟩), undef, .pointer none, .pointer (some ⟨cb, 0, none⟩), .int .i64 x, .pointer (some ⟨g, 0, none⟩), .bool false, .pointer (some ⟨g, 0, none⟩), .pointer (some ⟨g, 0, none⟩), .pointer (some ⟨g, 1, none⟩), .int .i64 (t.most : Int), .pointer (some ⟨g, 0, none⟩), .pointer (some ⟨g, 0, none⟩), .pointer (some ⟨g, 2, none⟩), .int .u64 (t.lost : Int), .agg #[.slice none 0 0, .int .i64 (t.most : Int), .int .u64 (t.lost : Int)], .pointer (some ⟨g', 0, none⟩), .pointer (some ⟨g, 0, none⟩), .func (.func 22) #[] #[.pointer (some ⟨W.heap.size, 0, none⟩)], .int .i64 x, undef, undef, undef, undef], defers := [] })
      ?assign ?body ?done (fun _ _ h _ => h.elim)
    case hJ => exact fun k => CJ.robust (by omega) k
    case hJ' => exact fun k x W' r o h hr hl => ⟨h.1, CJ.robust (by omega) k W' r o h.2 hr hl⟩
    case h0 =>
      intro o o'
      have hb : Below w2.heap.size w2 ((w2.alloc o).alloc o') := ((Below.refl _ _).alloc (Nat.le_refl _) _).alloc (by simp) _
      obtain ⟨⟨v0, h1, h2⟩, _⟩ := HJ0.out
      exact ⟨⟨v0, h1.below hb, h2⟩, Keeps.of_below hb⟩
    case hiter =>
      intro l0 R Rx hR hY hRs hRx W' hJW hRW
      refine iter_in 8 l0 W.heap.size t.l.length cc A2 t.l (fun k W' => CJ w w2 W' g' t k) R Rx (by omega) (by have := HT.out; omega) ?_ ?_ W' hJW hRW
      · exact fun k W' hJ _ => ⟨(HBX.out k W' hJ).1, (HBX.out k W' hJ).2.1⟩
      · exact fun k W' hk hJ hRk => hY k _ W' hk ⟨rfl, hJ⟩ hRk
    case assign =>
      intro l0 x W' K hK
      gi_wp2
      exact hK
    case body =>
      rintro l0 k x W' hk ⟨rfl, hJ⟩ hlt2
      obtain ⟨v', hB', hv'⟩ := hJ.bag
      have e0 := (HBX.out k W' hJ).2.2
      have hln : (t.l.take k).length = k := by rw [List.length_take]; omega
      have hnf : (⟨t.l.take k, t.most, t.lost⟩ : Bv).full = false := by
        have := HT.out
        unfold Bv.full
        simp only [hln]
        simp
        omega
      have hput := bput_any hB' (by have := HBW.out.size; omega) (t.l.getD k 0) HLO.out
      rw [hnf] at hput
      have hnext : (⟨t.l.take k, t.most, t.lost⟩ : Bv).put (t.l.getD k 0) = ⟨t.l.take (k + 1), t.most, t.lost⟩ := by
        unfold Bv.put
        rw [hnf]
        unfold Bv.add
        simp only [Bool.false_eq_true, if_false]
        rw [List.take_succ_eq_append_getElem hk]
        simp [hk]
      rw [hnext] at hput
      have HP := Lib.hid hput
      have HK := Lib.hid hJ.kp
      have HV := Lib.hid hv'
      generalize t.l.getD k 0 = x at *
      clear hput hnext hnf hJ hv' hB'
      gi_wp2_with (first
        | (refine ⟨trivial, ?_⟩; gi_at_call 7; refine (CallsIn.inRound l0 (callsIn_wide.2 HP.out)).mono ?_; rintro e W2 ⟨rfl, v2, hB2, hK2, hv2⟩)
        | fail)
      have hF : ∀ i, Foot g' v' i → i = g' ∨ w2.heap.size + 2 ≤ i := by
        rintro i (h | h)
        · exact .inl h
        · exact .inr (HV.out i h)
      refine ⟨⟨hK2.size, hK2.block _ (by omega) (fun h => by have := hF _ h; omega), hK2.block _ (by omega) (fun h => by have := hF _ h; omega)⟩, ⟨v2, hB2, ?_⟩, HK.out.trans hK2 (fun i hi => .inl (by have := hF i hi; omega))⟩
      intro q hq
      rcases hv2 with h5 | h5
      · exact HV.out q (h5 ▸ hq)
      · have := h5 q hq
        omega
    case done =>
      intro W' hJ hD
      obtain ⟨v', hB', hv'⟩ := hJ.bag
      rw [List.take_length] at hB'
      have e0 := (HBX.out _ W' hJ).2.2
      have HB' := Lib.hid hB'
      have HK := Lib.hid hJ.kp
      have HV := Lib.hid hv'
      clear hB' hJ hv'
      gi_wp2
      refine ⟨by simp, .inl ⟨_, _, rfl, run_takeDeferred hD, ?_⟩⟩
      have hg := grownBy_putObj' W' w2.heap.size (.deferred none)
      refine ⟨_, results_tmp rfl _ _ _, g', v', rfl, ?_, ?_⟩
      · refine HB'.out.keeps (F := fun i => i = w2.heap.size) ((Keeps.refl _ _).grown hg (fun k e => .inl (Option.some.inj e).symm)) ?_
        rintro i (rfl | hi) e
        · omega
        · have := HV.out i hi
          omega
      · have hgl' : w.heap.size ≤ g' := HB'.out.lo
        have k2 := HK.out.grown hg (fun q e => .inl (.inr (by have := Option.some.inj e; omega)))
        have hs := HBW.out.size
        exact HBW.out.trans ⟨k2.os, k2.tape, k2.output, k2.size, fun i hi => k2.block i (by omega) (by omega)⟩
  have HKEY := Lib.hid key
  clear key hKK HLO
  have HC1 := Lib.hid c1
  have HC2 := Lib.hid c2
  clear c1 c2
  have HCC1 : Hid (∀ wd, Below w.heap.size w wd → CC w ((wd.alloc (.cells #[.slice none 0 0, .int .i64 (t.most : Int), .int .u64 (t.lost : Int)] 43)).alloc (.cells #[.pointer (some ⟨wd.heap.size, 0, none⟩)] 24)) (wd.heap.size + 1) wd.heap.size t) := by
    refine Lib.hid fun wd hbd => ⟨?_, ⟨?_, World.ownsRow_nil _ _ _ _, (by intro e; cases e), hbd.size, Nat.zero_le _, HH.out.most⟩, (hbd.alloc hbd.size _).alloc (Nat.le_trans hbd.size (by simp)) _, Nat.le_trans hbd.size (Nat.le_succ _), by omega⟩
    · have := heap_alloc_new (wd.alloc (.cells #[.slice none 0 0, .int .i64 (t.most : Int), .int .u64 (t.lost : Int)] 43)) (.cells #[.pointer (some ⟨wd.heap.size, 0, none⟩)] 24)
      simpa using this
    · rw [heap_alloc_old _ _ (by simp)]
      exact heap_alloc_new wd _
  have HCC2 : Hid (∀ wd, Below w.heap.size w wd → CC w ((wd.alloc (.cells #[.pointer (some ⟨wd.heap.size + 1, 0, none⟩)] 24)).alloc (.cells #[.slice none 0 0, .int .i64 (t.most : Int), .int .u64 (t.lost : Int)] 43)) wd.heap.size (wd.heap.size + 1) t) := by
    refine Lib.hid fun wd hbd => ⟨?_, ⟨?_, World.ownsRow_nil _ _ _ _, (by intro e; cases e), Nat.le_trans hbd.size (Nat.le_succ _), Nat.zero_le _, HH.out.most⟩, (hbd.alloc hbd.size _).alloc (Nat.le_trans hbd.size (by simp)) _, hbd.size, by omega⟩
    · rw [heap_alloc_old _ _ (by simp)]
      exact heap_alloc_new wd _
    · have := heap_alloc_new (wd.alloc (.cells #[.pointer (some ⟨wd.heap.size + 1, 0, none⟩)] 24)) (.cells #[.slice none 0 0, .int .i64 (t.most : Int), .int .u64 (t.lost : Int)] 43)
      simpa using this
  refine Code.wp_mono (Q := Exit.then _ (fun _ _ _ => False)) (by rintro (_ | _ | _ | _ | _ | _) a' w' hq <;> first | exact hq | exact hq.elim) ?_
  refine wp_tree w.heap.size (.two [0, 1, 2, 3, 4, 5, 6, 7, 8] 9 10 (.one [] 10 (.one [] 11 (.fin []))) (.one [] 9 (.one [] 11 (.fin [])))) (by kernel_rfl) (by kernel_rfl) (fun d _ _ _ _ h => by cases d <;> exact h) fun wd hbd => ?_
  intro f hf
  have F1 : ∀ z, (f z).cell? ⟨g, 1, none⟩ = some (.int .i64 (t.most : Int)) := fun z => ((hf z).cell (p := ⟨g, 1, none⟩) hgl).trans HC1.out
  have F2 : ∀ z, (f z).cell? ⟨g, 2, none⟩ = some (.int .u64 (t.lost : Int)) := fun z => ((hf z).cell (p := ⟨g, 2, none⟩) hgl).trans HC2.out
  simp only [pickI, Option.toList_some, List.cons_append, List.nil_append, List.getElem?_toArray, List.getElem?_cons_succ, List.getElem?_cons_zero]
  repeat (go_big_quiet_step (fail))
  refine wpQuiet_nil ?_
  clear F1 F2 hf f
  refine ⟨?_, ?_⟩
  · refine seg_op (by simp only [List.getElem?_toArray, List.getElem?_cons_succ, List.getElem?_cons_zero]; rfl) fun K hK => ?_
    go_simp
    refine hK.out _ _ ⟨hbd.alloc hbd.size _, ?_⟩
    clear hK K
    intro f hf
    refine wpQuiet_nil ?_
    clear hf f
    refine seg_op (by simp only [List.getElem?_toArray, List.getElem?_cons_succ, List.getElem?_cons_zero]; rfl) fun K hK => ?_
    go_simp
    refine hK.out _ _ ⟨(hbd.alloc hbd.size _).alloc (Nat.le_trans hbd.size (by simp)) _, ?_⟩
    clear hK K
    intro f hf
    refine wpQuiet_nil ?_
    clear hf f
    refine seg_op (by simp only [List.getElem?_toArray, List.getElem?_cons_succ, List.getElem?_cons_zero]; rfl) fun K hK => ?_
    go_simp
    refine hK.out _ _ ⟨(hbd.alloc hbd.size _).alloc (Nat.le_trans hbd.size (by simp)) _, ?_⟩
    clear hK K
    intro f hf
    refine wpQuiet_nil ?_
    refine HKEY.out (wd.heap.size + 1) (wd.heap.size) _ ?_
    exact HCC1.out wd hbd
  · refine seg_op (by simp only [List.getElem?_toArray, List.getElem?_cons_succ, List.getElem?_cons_zero]; rfl) fun K hK => ?_
    go_simp
    refine hK.out _ _ ⟨hbd.alloc hbd.size _, ?_⟩
    clear hK K
    intro f hf
    refine wpQuiet_nil ?_
    clear hf f
    refine seg_op (by simp only [List.getElem?_toArray, List.getElem?_cons_succ, List.getElem?_cons_zero]; rfl) fun K hK => ?_
    go_simp
    refine hK.out _ _ ⟨(hbd.alloc hbd.size _).alloc (Nat.le_trans hbd.size (by simp)) _, ?_⟩
    clear hK K
    intro f hf
    refine wpQuiet_nil ?_
    clear hf f
    refine seg_op (by simp only [List.getElem?_toArray, List.getElem?_cons_succ, List.getElem?_cons_zero]; rfl) fun K hK => ?_
    go_simp
    refine hK.out _ _ ⟨(hbd.alloc hbd.size _).alloc (Nat.le_trans hbd.size (by simp)) _, ?_⟩
    clear hK K
    intro f hf
    refine wpQuiet_nil ?_
    refine HKEY.out wd.heap.size (wd.heap.size + 1) _ ?_
    exact HCC2.out wd hbd
end Go.Proofs.Ytdddknncndjbcaa
