/- A vote of the law's, read as data; the law's light. Whether two entries are of the same content. -/
import Derived.Test.YtapfggpeodpflaaMlightM
import Derived.Test.YtapfggpeodpflaaMflatM
import Derived.Test.YtapfggpeodpflaaAgainM
namespace Go.Proofs.Ytapfggpeodpflaa
set_option maxRecDepth 20000
open Go.ChangeShapes Go.WideShapes Go.ChangeAt Go.RowKit

structure Vo where
  nd : Int
  l : Li
def Vo.cells (o : Vo) : Array Value := #[.int .i64 o.nd, o.l.v]
theorem Vo.size (o : Vo) : o.cells.size = 2 := rfl
def Vo.Reads (o : Vo) (w : World) : Prop := (Lit.int .i64 o.nd).wf = true ∧ Ents w o.l.A o.l.n o.l.c o.l.es
section
variable {H : Type} {enc : TypeId × Value → H} {W : World} {r : Reach} {b0 : Nat} {v : Value} {d : DataW H} {p : List MemPlace}
theorem Vo.of_cells {n : Nat} {cs : List Value} {y : DataW H × List MemPlace} (hl : cs.length = 2) (h : DataW.trod enc Try.prog W 0 (fun _ => true) true n 32 cs = some y) : ∃ o : Vo, cs = o.cells.toList ∧ o.Reads W := by
  obtain ⟨g0, g1, hs, hat, t0, t1⟩ : ∃ g0 g1 : Field, Try.prog.underlying 32 = some (.struct #[g0, g1]) ∧ fieldsAtK Try.prog #[g0, g1] [(0, 1), (1, 1)] = true ∧ g0.type = 3 ∧ g1.type = 23 :=
    ⟨_, _, Try.underlying32, by kernel_rfl, rfl, rfl⟩
  obtain ⟨ys, n', _, _, _, hyl, hg⟩ := DataW.trod_struct hs h
  match ys, hyl with
  | [y0, y1], _ =>
    have k0 := hg 0 g0 rfl
    obtain ⟨o0, m0⟩ := fatK hat 0 g0 (0, 1) rfl rfl
    rw [o0, m0, t0] at k0
    have k1 := hg 1 g1 rfl
    obtain ⟨o1, m1⟩ := fatK hat 1 g1 (1, 1) rfl rfl
    rw [o1, m1, t1] at k1
    obtain ⟨a0, e0, _, w0⟩ := DataW.trod_int Try.underlying3 k0
    obtain ⟨l, e1, w1⟩ := Li.of_cells k1
    refine ⟨⟨a0, l⟩, ?_, w0, w1⟩
    match cs, hl with
    | [u0, u1], _ =>
      have e1' : [u1] = l.cells.toList := by simpa using e1
      simp only [List.drop_zero, List.take_succ_cons, List.take_zero, List.cons.injEq, and_true] at e0
      unfold Li.cells at e1'
      simp only [List.cons.injEq, and_true] at e1'
      unfold Vo.cells
      rw [e0, e1']
def Vo.zero : Vo := ⟨0, Li.zero⟩
theorem Vo.zero_reads (W : World) : Vo.zero.Reads W := ⟨by decide, Li.zero_reads W⟩
def Vo.lay : Lay Vo 2 := ⟨Vo.cells, Vo.size, Vo.Reads, fun _ _ _ h hb => ⟨h.1, h.2.below hb⟩, Vo.zero, Vo.zero_reads⟩
theorem Vo.dec (hok : Value.okWide Try.prog W r b0 24 v) (h : DataW.Trod enc Try.prog W 0 (fun _ => true) true 24 v d p) : ∃ (A : Option Addr) (n c : Nat) (os : List Vo), v = .slice A n c ∧ Slc Vo.lay W A n c os :=
  dec_slc Try.underlying24 (by kernel_rfl) (by decide) (fun _ _ _ hl h => Vo.of_cells hl h) hok h
end
/-- One list alone. -/
theorem slc_one {w : World} {l : Li} {g : Nat} {t : TypeId} (h : Ents w l.A l.n l.c l.es) (hg : w.heap[g]? = some (.cells #[l.v] t (0, 0))) : Slc Li.lay w (some ⟨g, 0, none⟩) 1 1 [l] := by
  refine ⟨⟨Nat.le_refl _, by unfold maxLen; decide, rfl, fun _ => ⟨g, 0, rfl, (Array.getElem?_eq_some_iff.1 hg).1, fun j u hu => ?_⟩⟩, rfl, fun o ho => by cases List.mem_singleton.1 ho; exact h⟩
  rw [Nat.zero_add, cell_of_row w _ j _ _ _ hg]
  have : Li.lay.flat [l] = (#[l.v] : Array Value).toList := rfl
  rw [this] at hu
  simpa using hu
/-- What light lets through. -/
def Fit26 (base : Nat) (own : List En) (l : List Vo) : Prop := l.length ≤ 12 ∧ base ≤ 4611686018427387904 ∧ (∀ e ∈ own, e.bn ≤ 200) ∧ own.length ≤ 20 ∧ ∀ v ∈ l, v.l.es.length ≤ 20 ∧ ∀ e ∈ v.l.es, e.bn ≤ 200
theorem fit_one {base : Nat} {l : Li} (h : Fit base [l]) : base ≤ 4611686018427387904 ∧ l.es.length ≤ 20 ∧ ∀ e ∈ l.es, e.bn ≤ 200 := by
  obtain ⟨h1, _, h2, _⟩ := h
  obtain ⟨h3, h4⟩ := h2 l (List.mem_singleton.2 rfl)
  exact ⟨h1, h3, fun e he => (h4.2 e he).2⟩
set_option maxHeartbeats 4000000 in
theorem light26 {w : World} (base : Nat) (hb : base < 18446744073709551616) {A0 : Option Addr} {n0 c0 : Nat} {own : List En} (h0 : Ents w A0 n0 c0 own) {A : Option Addr} {n c : Nat} {l : List Vo} (h : Slc Vo.lay w A n c l) :
    Calls Try.prog 7 #[.int .u64 (base : Int), .slice A0 n0 c0, .slice A n c] w (LAns w (Fit26 base own l)) := by
  have HH := Lib.hid h
  have H0 := Lib.hid h0
  have hcap := h.rd.2.1
  have hnc := h.rd.1
  have hnm : (n : Int) ≤ 9223372036854775807 := by unfold maxLen at hcap; omega
  have HLG := Lib.hid (fun (w' : World) (g : Nat) (l : Li) (h : Ents w' l.A l.n l.c l.es) (hg : w'.heap[g]? = some (.cells #[l.v] 23 (0, 0))) => light23 (slc_one h hg) base hb)
  have HO := Lib.hid h.len
  unfold LAns at *
  clear h h0 hcap hnc hb
  by_cases h12 : 12 < n
  · have d1 : (12 : Int) < (n : Int) := by omega
    have d2 : decide ((12 : Int) < (n : Int)) = true := by simp; omega
    go_enter Try.func7, Try.ntmps7
    go_wp2
    go_ret
    exact ⟨_, rfl, (fun h => by cases h), Below.refl _ _⟩
  have d1 : ¬ (12 : Int) < (n : Int) := by omega
  have d2 : decide ((12 : Int) < (n : Int)) = false := by simp; omega
  have d3 : (n : Int) ≤ 12 := by omega
  go_enter Try.func7, Try.ntmps7
  go_wp2_with (first
    | (go_at_call 19
       refine (HLG.out _ w.heap.size ⟨A0, n0, c0, own⟩ (H0.out.below ((Below.refl _ _).alloc (Nat.le_refl _) _)) (heap_alloc_new w _)).mono ?_
       rintro e w1 ⟨b1, rfl, hf1, hb1⟩
       have HF1 := Lib.hid hf1
       have HB1 := Lib.hid (((Below.refl w.heap.size w).alloc (Nat.le_refl _) (.cells #[.slice A0 n0 c0] 23)).trans (hb1.mono (by simp)))
       clear hf1 hb1
       cases b1)
    | fail)
  · go_ret
    exact ⟨_, rfl, (fun h => by cases h), HB1.out⟩
  go_loopw [8, 21] (fun _ kv wr => ∃ i : Nat, i ≤ n ∧ kv = .int .i64 (i : Int) ∧ Hid (∀ j v, j < i → l[j]? = some v → v.l.es.length ≤ 20 ∧ ∀ e ∈ v.l.es, e.bn ≤ 200) ∧ Hid (Below w.heap.size w wr)) (fun _ kv _ => n - (intOf kv).toNat)
  case atStart => exact ⟨0, Nat.zero_le _, rfl, Lib.hid (fun j v hj => absurd hj (Nat.not_lt_zero _)), HB1⟩
  case round =>
    obtain ⟨i, hi, rfl, HA, HB⟩ := hrel
    by_cases hlt : i < n
    · obtain ⟨v, hv⟩ : ∃ v, l[i]? = some v := ⟨_, List.getElem?_eq_getElem (by have := HO.out; omega)⟩
      obtain ⟨b, o, rfl, hbb, hcc⟩ := HH.out.at_ (by omega)
      have k0 : wr.cell? ⟨b, o + i * 2, none⟩ = some (.int .i64 v.nd) := (HB.out.cell (p := ⟨b, o + i * 2, none⟩) hbb).trans (hcc i v hv 0 _ rfl)
      have k1 : wr.cell? ⟨b, o + i * 2 + 1, none⟩ = some v.l.v := (HB.out.cell (p := ⟨b, o + i * 2 + 1, none⟩) hbb).trans (by have := hcc i v hv 1 _ rfl; rwa [← Nat.add_assoc] at this)
      have HEV := Lib.hid (show Ents w v.l.A v.l.n v.l.c v.l.es from (HH.out.reads v (List.mem_of_getElem? hv)).2)
      have HVV := Lib.hid hv
      have HLT := Lib.hid hlt
      have hii : (i : Int) < (n : Int) := by omega
      clear hcc hv hlt hbb
      obtain ⟨nd, lA, ln, lc, les⟩ := v
      have HB3 := Lib.hid ((HB.out.alloc HB.out.size (.cells #[.int .i64 nd, .slice lA ln lc] 32)).alloc (by have := HB.out.size; simp; omega) (.cells #[.slice lA ln lc] 23))
      unfold Li.v at k1
      dsimp only at *
      go_wp2_with (first
        | (go_at_call 19
           refine (HLG.out ((wr.alloc (.cells #[.int .i64 nd, .slice lA ln lc] 32)).alloc (.cells #[.slice lA ln lc] 23)) (wr.heap.size + 1) ⟨lA, ln, lc, les⟩ (HEV.out.below HB3.out) (Qu.row_here _ _ (by simp))).mono ?_
           rintro e w1 ⟨b1, rfl, hf1, hb1⟩
           have HF2 := Lib.hid hf1
           have HB2 := Lib.hid (HB3.out.trans (hb1.mono HB3.out.size))
           clear hf1 hb1
           cases b1)
        | fail)
      · go_ret
        exact ⟨_, rfl, (fun h => by cases h), HB2.out⟩
      · go_roundw
        case rel => exact ⟨i + 1, HLT.out, by go_num, Lib.hid (fun j x hj hx => by
            rcases Nat.lt_or_ge j i with h1 | h1
            · exact HA.out j x h1 hx
            · obtain rfl : j = i := by omega
              rw [HVV.out] at hx
              cases hx
              exact (fit_one (HF2.out trivial)).2), HB2⟩
        case measure => have := HLT.out; simp [intOf]; omega
    · obtain rfl : i = n := by omega
      have hfin : Fit26 base own l := ⟨by have := HO.out; omega, (fit_one (HF1.out trivial)).1, (fit_one (HF1.out trivial)).2.2, (fit_one (HF1.out trivial)).2.1, fun v hv => by
        obtain ⟨j, hj⟩ := List.getElem?_of_mem hv
        exact HA.out j v (by have := (List.getElem?_eq_some_iff.1 hj).1; have := HO.out; omega) hj⟩
      have HFI := Lib.hid hfin
      clear hfin
      go_wp2
      go_ret
      exact ⟨_, rfl, (fun _ => HFI.out), HB.out⟩
end Go.Proofs.Ytapfggpeodpflaa

namespace Go.Proofs.Ytapfggpeodpflaa
open Go.RowKit
set_option maxRecDepth 20000

def En.alike (e x : En) : Bool := decide (e.kd = x.kd) && (decide (e.look = x.look) && decide (e.da = x.da))
theorem str_beq (a b : List UInt8) : ((str a).toList == (str b).toList) = decide (a = b) := by
  have e : ∀ l : List UInt8, (str l).toList = l := fun l => ByteArray.toList_mk l
  rw [e, e]
  by_cases h : a = b <;> simp [h]
set_option maxHeartbeats 4000000 in
theorem alike_any (e x : En) (w : World) : Calls Try.prog 42 #[.agg e.cells, .agg x.cells] w fun r w' => r = .returned (.bool (e.alike x)) ∧ Below w.heap.size w w' := by
  obtain ⟨W, hW, hz, r0, r1, hb⟩ := boxes2 w e.cells x.cells 55 55
  have HL1 := Lib.hid (fun W' => rlook_any e W')
  have HL2 := Lib.hid (fun W' => rlook_any x W')
  have HB := Lib.hid hb
  have hp0 : w.heap.size < W.heap.size := by omega
  have hp1 : w.heap.size + 1 < W.heap.size := by omega
  obtain ⟨ix, tm, st, kd, cl, rq, fr, ct, da, A, bn, bc, ls⟩ := e
  obtain ⟨ix2, tm2, st2, kd2, cl2, rq2, fr2, ct2, da2, A2, bn2, bc2, ls2⟩ := x
  have hAL : En.alike ⟨ix, tm, st, kd, cl, rq, fr, ct, da, A, bn, bc, ls⟩ ⟨ix2, tm2, st2, kd2, cl2, rq2, fr2, ct2, da2, A2, bn2, bc2, ls2⟩ = (decide (kd = kd2) && (decide ((⟨cl, rq, fr, ct⟩ : Lk) = ⟨cl2, rq2, fr2, ct2⟩) && decide (da = da2))) := rfl
  rw [hAL]
  clear hAL hz hb
  have hEQ := fun W' => eq_look cl rq fr ct cl2 rq2 fr2 ct2 W'
  have hST := str_beq da da2
  unfold En.cells En.look Lk.val at *
  dsimp only at *
  have s0 := cell_of_row W (w.heap.size) 0 _ _ _ r0
  have s1 := cell_of_row W (w.heap.size) 1 _ _ _ r0
  have s2 := cell_of_row W (w.heap.size) 2 _ _ _ r0
  have s3 := cell_of_row W (w.heap.size) 3 _ _ _ r0
  have s4 := cell_of_row W (w.heap.size) 4 _ _ _ r0
  have s5 := cell_of_row W (w.heap.size) 5 _ _ _ r0
  have s6 := cell_of_row W (w.heap.size) 6 _ _ _ r0
  have s7 := cell_of_row W (w.heap.size) 7 _ _ _ r0
  have s8 := cell_of_row W (w.heap.size) 8 _ _ _ r0
  have s9 := cell_of_row W (w.heap.size) 9 _ _ _ r0
  have t0 := cell_of_row W (w.heap.size + 1) 0 _ _ _ r1
  have t1 := cell_of_row W (w.heap.size + 1) 1 _ _ _ r1
  have t2 := cell_of_row W (w.heap.size + 1) 2 _ _ _ r1
  have t3 := cell_of_row W (w.heap.size + 1) 3 _ _ _ r1
  have t4 := cell_of_row W (w.heap.size + 1) 4 _ _ _ r1
  have t5 := cell_of_row W (w.heap.size + 1) 5 _ _ _ r1
  have t6 := cell_of_row W (w.heap.size + 1) 6 _ _ _ r1
  have t7 := cell_of_row W (w.heap.size + 1) 7 _ _ _ r1
  have t8 := cell_of_row W (w.heap.size + 1) 8 _ _ _ r1
  have t9 := cell_of_row W (w.heap.size + 1) 9 _ _ _ r1
  clear r0 r1
  generalize decide ((⟨cl, rq, fr, ct⟩ : Lk) = ⟨cl2, rq2, fr2, ct2⟩) = B at *
  generalize decide (da = da2) = D at *
  by_cases hk : kd = kd2
  · subst hk
    cases B
    · go_enter Try.func42, Try.ntmps42
      go_wp2_with (fail)
      rw [← hW]
      refine wp_low W.heap.size [([0, 1, 2, 3, 4, 5, 6, 8], 7), ([], 9)] [10, 11, 12, 13, 14, 15, 16, 17, 18, 19] (by kernel_rfl) (by kernel_rfl) (fun d _ _ _ _ h => by cases d <;> exact h) (Nat.le_refl _) fun wd hbd => ?_
      intro q hq
      have a0 := fun z => kept (hq z) s0 hp0
      have a1 := fun z => kept (hq z) s1 hp0
      have a2 := fun z => kept (hq z) s2 hp0
      have a3 := fun z => kept (hq z) s3 hp0
      have a4 := fun z => kept (hq z) s4 hp0
      have a5 := fun z => kept (hq z) s5 hp0
      have a6 := fun z => kept (hq z) s6 hp0
      have a7 := fun z => kept (hq z) s7 hp0
      have a8 := fun z => kept (hq z) s8 hp0
      have a9 := fun z => kept (hq z) s9 hp0
      have b0 := fun z => kept (hq z) t0 hp1
      have b1 := fun z => kept (hq z) t1 hp1
      have b2 := fun z => kept (hq z) t2 hp1
      have b3 := fun z => kept (hq z) t3 hp1
      have b4 := fun z => kept (hq z) t4 hp1
      have b5 := fun z => kept (hq z) t5 hp1
      have b6 := fun z => kept (hq z) t6 hp1
      have b7 := fun z => kept (hq z) t7 hp1
      have b8 := fun z => kept (hq z) t8 hp1
      have b9 := fun z => kept (hq z) t9 hp1
      simp only [pickI, Option.toList_some, List.cons_append, List.nil_append, List.getElem?_toArray, List.getElem?_cons_succ, List.getElem?_cons_zero]
      try go_frame
      go_big_quiet_step (fail)
      go_big_quiet_step (fail)
      go_big_quiet_step (fail)
      go_big_quiet_step (fail)
      go_big_quiet_step (fail)
      go_big_quiet_step (fail)
      go_big_quiet_step (fail)
      go_big_quiet_step (fail)
      refine wpQuiet_nil ?_
      clear hq q a0 a1 a2 a3 a4 a5 a6 a7 a8 a9 b0 b1 b2 b3 b4 b5 b6 b7 b8 b9
      refine seg_op (by simp only [List.getElem?_toArray, List.getElem?_cons_succ, List.getElem?_cons_zero]; rfl) fun K hK => ?_
      go_simp
      refine (HL1.out _).mono ?_
      rintro e v0 ⟨rfl, bv0⟩
      have zv0 := hbd.trans (bv0.mono hbd.size)
      refine hK.out _ _ (seg_keep zv0 ?_)
      clear hK K
      intro q hq
      refine wpQuiet_nil ?_
      clear hq q
      refine seg_op (by simp only [List.getElem?_toArray, List.getElem?_cons_succ, List.getElem?_cons_zero]; rfl) fun K hK => ?_
      go_simp
      refine (HL2.out _).mono ?_
      rintro e v1 ⟨rfl, bv1⟩
      have zv1 := zv0.trans (bv1.mono zv0.size)
      refine hK.out _ _ (seg_keep zv1 ?_)
      clear hK K
      intro q hq
      have a0 := fun z => kept (hq z) s0 hp0
      have a1 := fun z => kept (hq z) s1 hp0
      have a2 := fun z => kept (hq z) s2 hp0
      have a3 := fun z => kept (hq z) s3 hp0
      have a4 := fun z => kept (hq z) s4 hp0
      have a5 := fun z => kept (hq z) s5 hp0
      have a6 := fun z => kept (hq z) s6 hp0
      have a7 := fun z => kept (hq z) s7 hp0
      have a8 := fun z => kept (hq z) s8 hp0
      have a9 := fun z => kept (hq z) s9 hp0
      have b0 := fun z => kept (hq z) t0 hp1
      have b1 := fun z => kept (hq z) t1 hp1
      have b2 := fun z => kept (hq z) t2 hp1
      have b3 := fun z => kept (hq z) t3 hp1
      have b4 := fun z => kept (hq z) t4 hp1
      have b5 := fun z => kept (hq z) t5 hp1
      have b6 := fun z => kept (hq z) t6 hp1
      have b7 := fun z => kept (hq z) t7 hp1
      have b8 := fun z => kept (hq z) t8 hp1
      have b9 := fun z => kept (hq z) t9 hp1
      simp only [pickI, Option.toList_some, List.cons_append, List.nil_append, List.getElem?_toArray, List.getElem?_cons_succ, List.getElem?_cons_zero]
      try go_frame
      go_big_quiet_step (fail)
      go_big_quiet_step (fail)
      go_big_quiet_step (fail)
      go_big_quiet_step (fail)
      go_big_quiet_step (fail)
      go_big_quiet_step (fail)
      go_big_quiet_step (fail)
      go_big_quiet_step (fail)
      go_big_quiet_step (fail)
      go_big_quiet_step (fail)
      refine wpQuiet_nil ?_
      clear hq q a0 a1 a2 a3 a4 a5 a6 a7 a8 a9 b0 b1 b2 b3 b4 b5 b6 b7 b8 b9
      go_wp2
      go_ret
      exact ⟨ret_bool (by simp), HB.out.trans (zv1.mono HB.out.size)⟩
    · go_enter Try.func42, Try.ntmps42
      go_wp2_with (fail)
      rw [← hW]
      refine wp_low W.heap.size [([0, 1, 2, 3, 4, 5, 6, 8], 7), ([], 9)] [10, 11, 12, 13, 14, 15, 16, 17, 18, 19] (by kernel_rfl) (by kernel_rfl) (fun d _ _ _ _ h => by cases d <;> exact h) (Nat.le_refl _) fun wd hbd => ?_
      intro q hq
      have a0 := fun z => kept (hq z) s0 hp0
      have a1 := fun z => kept (hq z) s1 hp0
      have a2 := fun z => kept (hq z) s2 hp0
      have a3 := fun z => kept (hq z) s3 hp0
      have a4 := fun z => kept (hq z) s4 hp0
      have a5 := fun z => kept (hq z) s5 hp0
      have a6 := fun z => kept (hq z) s6 hp0
      have a7 := fun z => kept (hq z) s7 hp0
      have a8 := fun z => kept (hq z) s8 hp0
      have a9 := fun z => kept (hq z) s9 hp0
      have b0 := fun z => kept (hq z) t0 hp1
      have b1 := fun z => kept (hq z) t1 hp1
      have b2 := fun z => kept (hq z) t2 hp1
      have b3 := fun z => kept (hq z) t3 hp1
      have b4 := fun z => kept (hq z) t4 hp1
      have b5 := fun z => kept (hq z) t5 hp1
      have b6 := fun z => kept (hq z) t6 hp1
      have b7 := fun z => kept (hq z) t7 hp1
      have b8 := fun z => kept (hq z) t8 hp1
      have b9 := fun z => kept (hq z) t9 hp1
      simp only [pickI, Option.toList_some, List.cons_append, List.nil_append, List.getElem?_toArray, List.getElem?_cons_succ, List.getElem?_cons_zero]
      try go_frame
      go_big_quiet_step (fail)
      go_big_quiet_step (fail)
      go_big_quiet_step (fail)
      go_big_quiet_step (fail)
      go_big_quiet_step (fail)
      go_big_quiet_step (fail)
      go_big_quiet_step (fail)
      go_big_quiet_step (fail)
      refine wpQuiet_nil ?_
      clear hq q a0 a1 a2 a3 a4 a5 a6 a7 a8 a9 b0 b1 b2 b3 b4 b5 b6 b7 b8 b9
      refine seg_op (by simp only [List.getElem?_toArray, List.getElem?_cons_succ, List.getElem?_cons_zero]; rfl) fun K hK => ?_
      go_simp
      refine (HL1.out _).mono ?_
      rintro e v0 ⟨rfl, bv0⟩
      have zv0 := hbd.trans (bv0.mono hbd.size)
      refine hK.out _ _ (seg_keep zv0 ?_)
      clear hK K
      intro q hq
      refine wpQuiet_nil ?_
      clear hq q
      refine seg_op (by simp only [List.getElem?_toArray, List.getElem?_cons_succ, List.getElem?_cons_zero]; rfl) fun K hK => ?_
      go_simp
      refine (HL2.out _).mono ?_
      rintro e v1 ⟨rfl, bv1⟩
      have zv1 := zv0.trans (bv1.mono zv0.size)
      refine hK.out _ _ (seg_keep zv1 ?_)
      clear hK K
      intro q hq
      have a0 := fun z => kept (hq z) s0 hp0
      have a1 := fun z => kept (hq z) s1 hp0
      have a2 := fun z => kept (hq z) s2 hp0
      have a3 := fun z => kept (hq z) s3 hp0
      have a4 := fun z => kept (hq z) s4 hp0
      have a5 := fun z => kept (hq z) s5 hp0
      have a6 := fun z => kept (hq z) s6 hp0
      have a7 := fun z => kept (hq z) s7 hp0
      have a8 := fun z => kept (hq z) s8 hp0
      have a9 := fun z => kept (hq z) s9 hp0
      have b0 := fun z => kept (hq z) t0 hp1
      have b1 := fun z => kept (hq z) t1 hp1
      have b2 := fun z => kept (hq z) t2 hp1
      have b3 := fun z => kept (hq z) t3 hp1
      have b4 := fun z => kept (hq z) t4 hp1
      have b5 := fun z => kept (hq z) t5 hp1
      have b6 := fun z => kept (hq z) t6 hp1
      have b7 := fun z => kept (hq z) t7 hp1
      have b8 := fun z => kept (hq z) t8 hp1
      have b9 := fun z => kept (hq z) t9 hp1
      simp only [pickI, Option.toList_some, List.cons_append, List.nil_append, List.getElem?_toArray, List.getElem?_cons_succ, List.getElem?_cons_zero]
      try go_frame
      go_big_quiet_step (fail)
      go_big_quiet_step (fail)
      go_big_quiet_step (fail)
      go_big_quiet_step (fail)
      go_big_quiet_step (fail)
      go_big_quiet_step (fail)
      go_big_quiet_step (fail)
      go_big_quiet_step (fail)
      go_big_quiet_step (fail)
      go_big_quiet_step (fail)
      refine wpQuiet_nil ?_
      clear hq q a0 a1 a2 a3 a4 a5 a6 a7 a8 a9 b0 b1 b2 b3 b4 b5 b6 b7 b8 b9
      go_wp2
      go_ret
      exact ⟨ret_bool (by simp [hST]), HB.out.trans (zv1.mono HB.out.size)⟩
  · have q : (kd == kd2) = false := by simpa using hk
    go_enter Try.func42, Try.ntmps42
    go_wp2_with (fail)
    rw [← hW]
    refine wp_low W.heap.size [([0, 1, 2, 3, 4, 5, 6, 8], 7), ([], 9)] [10, 11, 12, 13, 14, 15, 16, 17, 18, 19] (by kernel_rfl) (by kernel_rfl) (fun d _ _ _ _ h => by cases d <;> exact h) (Nat.le_refl _) fun wd hbd => ?_
    intro q hq
    have a0 := fun z => kept (hq z) s0 hp0
    have a1 := fun z => kept (hq z) s1 hp0
    have a2 := fun z => kept (hq z) s2 hp0
    have a3 := fun z => kept (hq z) s3 hp0
    have a4 := fun z => kept (hq z) s4 hp0
    have a5 := fun z => kept (hq z) s5 hp0
    have a6 := fun z => kept (hq z) s6 hp0
    have a7 := fun z => kept (hq z) s7 hp0
    have a8 := fun z => kept (hq z) s8 hp0
    have a9 := fun z => kept (hq z) s9 hp0
    have b0 := fun z => kept (hq z) t0 hp1
    have b1 := fun z => kept (hq z) t1 hp1
    have b2 := fun z => kept (hq z) t2 hp1
    have b3 := fun z => kept (hq z) t3 hp1
    have b4 := fun z => kept (hq z) t4 hp1
    have b5 := fun z => kept (hq z) t5 hp1
    have b6 := fun z => kept (hq z) t6 hp1
    have b7 := fun z => kept (hq z) t7 hp1
    have b8 := fun z => kept (hq z) t8 hp1
    have b9 := fun z => kept (hq z) t9 hp1
    simp only [pickI, Option.toList_some, List.cons_append, List.nil_append, List.getElem?_toArray, List.getElem?_cons_succ, List.getElem?_cons_zero]
    try go_frame
    go_big_quiet_step (fail)
    go_big_quiet_step (fail)
    go_big_quiet_step (fail)
    go_big_quiet_step (fail)
    go_big_quiet_step (fail)
    go_big_quiet_step (fail)
    go_big_quiet_step (fail)
    go_big_quiet_step (fail)
    refine wpQuiet_nil ?_
    clear hq q a0 a1 a2 a3 a4 a5 a6 a7 a8 a9 b0 b1 b2 b3 b4 b5 b6 b7 b8 b9
    refine seg_op (by simp only [List.getElem?_toArray, List.getElem?_cons_succ, List.getElem?_cons_zero]; rfl) fun K hK => ?_
    go_simp
    refine hK.out _ _ (seg_keep hbd ?_)
    clear hK K
    intro q hq
    refine wpQuiet_nil ?_
    clear hq q
    refine seg_op (by simp only [List.getElem?_toArray, List.getElem?_cons_succ, List.getElem?_cons_zero]; rfl) fun K hK => ?_
    go_simp
    refine hK.out _ _ (seg_keep hbd ?_)
    clear hK K
    intro q hq
    have a0 := fun z => kept (hq z) s0 hp0
    have a1 := fun z => kept (hq z) s1 hp0
    have a2 := fun z => kept (hq z) s2 hp0
    have a3 := fun z => kept (hq z) s3 hp0
    have a4 := fun z => kept (hq z) s4 hp0
    have a5 := fun z => kept (hq z) s5 hp0
    have a6 := fun z => kept (hq z) s6 hp0
    have a7 := fun z => kept (hq z) s7 hp0
    have a8 := fun z => kept (hq z) s8 hp0
    have a9 := fun z => kept (hq z) s9 hp0
    have b0 := fun z => kept (hq z) t0 hp1
    have b1 := fun z => kept (hq z) t1 hp1
    have b2 := fun z => kept (hq z) t2 hp1
    have b3 := fun z => kept (hq z) t3 hp1
    have b4 := fun z => kept (hq z) t4 hp1
    have b5 := fun z => kept (hq z) t5 hp1
    have b6 := fun z => kept (hq z) t6 hp1
    have b7 := fun z => kept (hq z) t7 hp1
    have b8 := fun z => kept (hq z) t8 hp1
    have b9 := fun z => kept (hq z) t9 hp1
    simp only [pickI, Option.toList_some, List.cons_append, List.nil_append, List.getElem?_toArray, List.getElem?_cons_succ, List.getElem?_cons_zero]
    try go_frame
    go_big_quiet_step (fail)
    go_big_quiet_step (fail)
    go_big_quiet_step (fail)
    go_big_quiet_step (fail)
    go_big_quiet_step (fail)
    go_big_quiet_step (fail)
    go_big_quiet_step (fail)
    go_big_quiet_step (fail)
    go_big_quiet_step (fail)
    go_big_quiet_step (fail)
    refine wpQuiet_nil ?_
    clear hq q a0 a1 a2 a3 a4 a5 a6 a7 a8 a9 b0 b1 b2 b3 b4 b5 b6 b7 b8 b9
    go_wp2
    go_ret
    exact ⟨ret_bool (by simp [hk]), HB.out.trans (hbd.mono HB.out.size)⟩
end Go.Proofs.Ytapfggpeodpflaa
