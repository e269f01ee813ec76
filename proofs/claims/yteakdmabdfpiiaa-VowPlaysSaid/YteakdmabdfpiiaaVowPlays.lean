/- VowPlays: whatever is promised, as long as the power is there, each call tells what the document says, and what is promised is what it says, also when it is opened again: the law answers true for every list of calls. -/
import Derived.Test.YteakdmabdfpiiaaVowp
import Derived.Test.YteakdmabdfpiiaaVopd
import Derived.Test.YteakdmabdfpiiaaSegsZ
import Derived.LoopN
import Derived.Deep.DeepCutAuto
import Derived.Deep.CutBlock
namespace Go.Proofs.Yteakdmabdfpiiaa
set_option maxRecDepth 20000
open Go.RowKit

theorem Vlx.turn {X : Nat → Prop} {w W W' : World} {B g T V M : Nat} {d : Dv} {t : Tv} {p : Vv} (h : Vlx X w W B g T V M d t p) (k : Keeps (fun i => X i ∧ w.heap.size ≤ i) W W') : Vlx X w W' B g T V M d t p :=
  ⟨h.1.turn (k.wide (fun _ hi => ⟨.inl hi.1, hi.2⟩)), k.row h.2.1 (fun hi => h.2.2.2 hi.1), h.2.2⟩
/-- Between two rounds. -/
structure PJ (w : World) (g pb : Nat) (i : Nat) (V : Nat) (W : World) : Prop where
  at_ : ∃ T d t p, Vlx (fun j => j = pb) w W w.heap.size g T V (200 * i) d t p ∧ Good 1 d t p ∧ d.fuse = 0 ∧ d.n = 4 ∧ t.next ≤ 2 * i + 1 ∧ W.heap[pb]? = some (.cells p.cells 74 (0, 0))

set_option maxHeartbeats 8000000 in
theorem vowPlays_at {A : Option Addr} {n c : Nat} {os : List Vop} {w : World} (h : Slc Vop.lay w A n c os) :
    Calls Try.prog 6 #[.slice A n c] w fun e w' => e = .returned (.bool true) ∧ Below w.heap.size w w' := by
  have hdn := dlx_new 4 w (by decide) (by decide)
  have hnm := h.rd.2.1
  have hnc := h.rd.1
  obtain ⟨g0, g0x⟩ := good_new 4 (by decide) 1
  obtain ⟨t0, ht0⟩ : ∃ t, t = openTv 1 1 ((Dv.new 4).bytes 1 (2 * 1)) := ⟨_, rfl⟩
  rw [← ht0] at g0 g0x
  have HS := Lib.hid h
  have HD := Lib.hid hdn
  have HG0 := Lib.hid (And.intro g0 g0x)
  have HT0 := Lib.hid ht0
  clear hdn h g0 g0x ht0
  go_enter Try.func6, Try.ntmps6
  go_wp2_with (first
    | (go_at_call 27; refine (lives12 _).mono ?_; rintro e w9 ⟨rfl, hb9⟩)
    | (go_at_call 10; refine HD.out.mono ?_; rintro e w1 ⟨g, rfl, hD0⟩)
    | (go_at_call 28; refine (vopn_any hD0 rfl 1 (by decide) (by decide) t0 HT0.out ⟨0, 0⟩ HG0.out.1.told).mono ?_; rintro e w2 ⟨T, V, rfl, hV0, hb2⟩)
    | fail)
  · go_ret
    exact ⟨rfl, hb9⟩
  have hn60 : n ≤ 60 := by
    have : (n : Int) ≤ 60 := by assumption
    omega
  obtain ⟨pb, hpb⟩ : ∃ b, b = w2.heap.size := ⟨_, rfl⟩
  obtain ⟨W3, hW3⟩ : ∃ W3, W3 = w2.alloc (.cells #[.int .u64 0, .int .i64 (-1)] 74) := ⟨_, rfl⟩
  have hb3 : Below w2.heap.size w2 W3 := by rw [hW3]; exact (Below.refl _ _).alloc (Nat.le_refl _) _
  have r3 : W3.heap[pb]? = some (.cells (⟨0, 0⟩ : Vv).cells 74 (0, 0)) := by rw [hW3, hpb]; exact row_here _ _ rfl
  have hV3 := hV0.more (X' := fun j => j = pb) hb3 (fun j hj => ⟨.inr (by omega), by rw [hj, hpb, hW3]; simp⟩)
  have hwb : w.heap.size ≤ pb := by rw [hpb]; exact hV0.bel.size
  rw [← hW3, ← hpb]
  have HJ0 : Hid (PJ w g pb 0 V W3) := Lib.hid ⟨T, Dv.new 4, t0, ⟨0, 0⟩, hV3, HG0.out.1, rfl, rfl, HG0.out.2, r3⟩
  have HWB := Lib.hid hwb
  clear hpb hW3 hb3 r3 hV3 hwb hV0 hD0 hb2 HG0 HT0 HD
  go_loopw [4, 33] (fun vr ir wr => ∃ i V : Nat, i ≤ n ∧ ir = .int .i64 (i : Int) ∧ vr = .pointer (some ⟨V, 0, none⟩) ∧ PJ w g pb i V wr) (fun _ ir _ => n - (intOf ir).toNat)
  case atStart => exact ⟨0, V, Nat.zero_le _, rfl, rfl, HJ0.out⟩
  case round =>
    obtain ⟨i, V, hi, rfl, rfl, ⟨T, d, t, p, hV, hG, hf, hdn, hnx, hpr⟩⟩ := hrel
    clear HJ0
    by_cases hlt : i < n
    · obtain ⟨x, hx⟩ : ∃ x, os[i]? = some x := ⟨_, List.getElem?_eq_getElem (by have := HS.out.len; omega)⟩
      have hrd := HS.out.reads x (List.mem_of_getElem? hx)
      obtain ⟨b, o, rfl, hbb, hcc⟩ := HS.out.at_ (by omega)
      have hc := fun j u hu => (hV.bel.cell (p := ⟨b, o + (i * 5 + j), none⟩) hbb).trans (hcc i x hx j u hu)
      obtain ⟨kd, tmz, nd, fu, kA, kn, kc, ks⟩ := x
      have k0 : wr.cell? ⟨b, o + i * 5, none⟩ = some (.int .i64 kd) := hc 0 _ rfl
      have k1 : wr.cell? ⟨b, o + i * 5 + 1, none⟩ = some (.int .u64 tmz) := hc 1 _ rfl
      have k2 : wr.cell? ⟨b, o + i * 5 + 2, none⟩ = some (.int .i64 nd) := hc 2 _ rfl
      have k3 : wr.cell? ⟨b, o + i * 5 + 3, none⟩ = some (.int .i64 fu) := hc 3 _ rfl
      have k4 : wr.cell? ⟨b, o + i * 5 + 4, none⟩ = some (.slice kA kn kc) := hc 4 _ rfl
      obtain ⟨_, hwt, hwn, _⟩ := hrd
      obtain ⟨x, rfl⟩ : ∃ x : Nat, tmz = (x : Int) := ⟨tmz.toNat, by simp [Lit.wf, IntKind.min, IntKind.max, IntKind.signed, IntKind.bits] at hwt; omega⟩
      have hlti : (i : Int) < (n : Int) := by omega
      have hii : (i : Int) ≤ 60 := by omega
      clear hc hcc hx hwt
      have HV := Lib.hid hV
      have HG := Lib.hid hG
      have HF := Lib.hid (And.intro hf (And.intro hdn hnx))
      have HPR := Lib.hid hpr
      clear hV hG hf hdn hnx hpr
      go_upto_region 12 with (fail)
      have hkb := and1_i64 kd
      generalize bits .and .i64 kd 1 = kb at *
      obtain ⟨W0, hW0⟩ : ∃ W0, W0 = wr.alloc (.cells #[.int .i64 kb, .int .u64 (x : Int), .int .i64 nd, .int .i64 fu, .slice kA kn kc] 76) := ⟨_, rfl⟩
      rw [← hW0]
      obtain ⟨q, hq⟩ : ∃ q, q = wr.heap.size := ⟨_, rfl⟩
      have hb0 : Below wr.heap.size wr W0 := by rw [hW0]; exact (Below.refl _ _).alloc (Nat.le_refl _) _
      have hz0 : W0.heap.size = q + 1 := by rw [hW0, hq]; simp
      have r0 : W0.heap[q]? = some (.cells #[.int .i64 kb, .int .u64 (x : Int), .int .i64 nd, .int .i64 fu, .slice kA kn kc] 76 (0, 0)) := by rw [hW0, hq]; exact row_here _ _ rfl
      have rp : W0.heap[pb]? = some (.cells p.cells 74 (0, 0)) := (hb0.block pb (Array.getElem?_eq_some_iff.1 HPR.out).1).trans HPR.out
      have hpq : pb < q := by rw [hq]; exact (Array.getElem?_eq_some_iff.1 HPR.out).1
      rw [← hq] at hb0
      rw [← hq]
      obtain ⟨na, nv, ne, hne⟩ : ∃ na nv ne, nextP p.term p.node kb x nd = (na, nv, ne) := ⟨_, _, _, rfl⟩
      have hnx := vnext_any p.term x p.node kb nd fu kA kn kc W0
      rw [hne] at hnx
      dsimp only at hnx
      have o0 := cell_of_row W0 _ 0 _ _ _ r0
      have o1 := cell_of_row W0 _ 1 _ _ _ r0
      have o2 := cell_of_row W0 _ 2 _ _ _ r0
      have o3 := cell_of_row W0 _ 3 _ _ _ r0
      have o4 := cell_of_row W0 _ 4 _ _ _ r0
      have p0 : W0.cell? ⟨pb, 0, none⟩ = some (.int .u64 (p.term : Int)) := cell_of_row W0 _ 0 _ _ _ rp
      have p1 : W0.cell? ⟨pb, 1, none⟩ = some (.int .i64 p.node) := cell_of_row W0 _ 1 _ _ _ rp
      simp at o0 o1 o2 o3 o4
      have HNX := Lib.hid hnx
      have HB0 := Lib.hid hb0
      have HW0 := Lib.hid hW0
      have HQ := Lib.hid (And.intro hq (And.intro hz0 hpq))
      have HRP := Lib.hid rp
      have HKB := Lib.hid hkb
      have HNE := Lib.hid hne
      clear hnx hb0 hW0 hq hz0 hpq r0 rp hkb hne
      go_upto_region 13 with (first
        | (go_at_call 29; refine HNX.out.mono ?_; rintro e w1 ⟨rfl, hb1⟩)
        | fail)
      obtain ⟨W1, hW1⟩ : ∃ W1, W1 = w1.alloc (.cells #[.int .u64 (na : Int), .int .i64 nv] 74) := ⟨_, rfl⟩
      rw [← hW1]
      obtain ⟨nb, hnb⟩ : ∃ nb, nb = w1.heap.size := ⟨_, rfl⟩
      have hb1W : Below w1.heap.size w1 W1 := by rw [hW1]; exact (Below.refl _ _).alloc (Nat.le_refl _) _
      have rn : W1.heap[nb]? = some (.cells #[.int .u64 (na : Int), .int .i64 nv] 74 (0, 0)) := by rw [hW1, hnb]; exact row_here _ _ rfl
      have hz1 : W1.heap.size = nb + 1 := by rw [hW1, hnb]; simp
      have hb01 : Below W0.heap.size W0 W1 := hb1.trans (hb1W.mono hb1.size)
      have hqn : q < nb := by have := HQ.out.2.1; have := hb1.size; omega
      rw [← hnb]
      obtain ⟨X1, hX1⟩ : ∃ X1 : Nat → Prop, X1 = fun j => j = pb ∨ j = q ∨ j = nb := ⟨_, rfl⟩
      have hbr : Below wr.heap.size wr W1 := by
        have h1 := HB0.out
        rw [HQ.out.1] at h1
        exact h1.trans (hb01.mono h1.size)
      have hV1 : Vlx X1 w W1 w.heap.size g T V (200 * i) d t p := HV.out.more hbr (fun j hj => by
        have h1 := HQ.out
        rw [hX1] at hj
        rcases hj with rfl | rfl | rfl
        · exact ⟨.inl rfl, by omega⟩
        · exact ⟨.inr (by omega), by omega⟩
        · exact ⟨.inr (by omega), by omega⟩)
      have o0 := kept hb01 o0 (by have := HQ.out; omega)
      have o1 := kept hb01 o1 (by have := HQ.out; omega)
      have o2 := kept hb01 o2 (by have := HQ.out; omega)
      have o3 := kept hb01 o3 (by have := HQ.out; omega)
      have o4 := kept hb01 o4 (by have := HQ.out; omega)
      have p0 := kept hb01 p0 (by have := HQ.out; omega)
      have p1 := kept hb01 p1 (by have := HQ.out; omega)
      have HRP1 := Lib.hid ((hb01.block pb (by have := HQ.out; omega)).trans HRP.out)
      have HRN1 := Lib.hid rn
      have HX1 := Lib.hid hX1
      have HV1 := Lib.hid hV1
      have HXq := Lib.hid (show X1 q by rw [hX1]; exact .inr (.inl rfl))
      have HXp := Lib.hid (show X1 pb by rw [hX1]; exact .inl rfl)
      have HXn := Lib.hid (show X1 nb by rw [hX1]; exact .inr (.inr rfl))
      have HNB := Lib.hid (And.intro hnb hqn)
      have hnx := HF.out.2.2
      have hra := vraise_any hV1 (HG.out.fit (by omega) (by rw [HF.out.2.1]; decide)) (by omega) x
      obtain ⟨s1, s2, s3, s4, s5, s6⟩ := good_step HG.out HF.out.1 (by omega) (p.raised x) (raised_small p x)
      generalize hr1 : vstep d t p (p.raised x) = r1 at hra s1 s2 s3 s4 s5 s6
      obtain ⟨d1, t1, v1, f1⟩ := r1
      dsimp only at s1 s2 s3 s4 s5 s6
      obtain ⟨p1v, hp1v⟩ : ∃ v, v = (res p (p.raised x)).1 := ⟨_, rfl⟩
      rw [← hp1v] at s1 s3
      subst s3
      have HRA := Lib.hid hra
      have HG1 := Lib.hid s1
      have HF1 := Lib.hid (And.intro s2 (And.intro (s6.trans HF.out.2.1) (Nat.le_trans s5 (Nat.succ_le_succ hnx))))
      have HE1 := Lib.hid s4
      have HP1 := Lib.hid hp1v
      clear hb1 hb1W hW1 rn hz1 hb01 hqn hbr hV1 hX1 hra s1 s2 s4 s5 s6 hr1 hp1v hnx hnb HNX
      rcases HKB.out with rfl | rfl
      · -- Raise alone
        have hpl := plays_raise p x nd
        rw [HNE.out, ← HP1.out, ← HE1.out] at hpl
        obtain ⟨ea, eb⟩ := Prod.mk.inj hpl
        obtain ⟨eb, ec⟩ := Prod.mk.inj eb
        clear hpl
        subst ea
        subst eb
        subst ec
        go_upto_region 21 with (first
          | (go_at_call 30; refine HRA.out.mono ?_; rintro e w4 ⟨rfl, hV4, hk4⟩
             have o0 := off_cell hk4 (.inl HXq.out) o0)
          | fail)
        have HV4 := Lib.hid hV4
        have HRN4 := Lib.hid (hk4.row HRN1.out (fun h => h.2 HXn.out))
        have HRP4 := Lib.hid (hk4.row HRP1.out (fun h => h.2 HXp.out))
        clear hV4 hk4 o0 o1 o2 o3 o4 p0 p1 HNE HRA
        refine wp_grow [([0, 1, 2, 3, 4, 6], 5)] [7, 8] (by kernel_rfl) (by kernel_rfl) (fun d _ _ _ _ h => by cases d <;> exact h) fun wd hbd => ?_
        intro f hf
        have e0 := fun z => ((hf z).cell (p := ⟨nb, 0, none⟩) (Array.getElem?_eq_some_iff.1 HRN4.out).1).trans (cell_of_row _ _ 0 _ _ _ HRN4.out)
        have e1 := fun z => ((hf z).cell (p := ⟨nb, 1, none⟩) (Array.getElem?_eq_some_iff.1 HRN4.out).1).trans (cell_of_row _ _ 1 _ _ _ HRN4.out)
        simp at e0 e1
        simp only [pickI, Option.toList_some, List.cons_append, List.nil_append, List.getElem?_toArray, List.getElem?_cons_succ, List.getElem?_cons_zero]
        repeat (go_big_quiet_step (fail))
        refine wpQuiet_nil ?_
        clear e0 e1 hf f
        refine seg_op (by simp only [List.getElem?_toArray, List.getElem?_cons_succ, List.getElem?_cons_zero]; rfl) fun KK hKK => ?_
        go_simp
        have hhas := has_any (HV4.out.below hbd).vw (by have := HG1.out.vote; omega)
        unfold Vv.cells at hhas
        refine hhas.mono ?_
        rintro e w6 ⟨rfl, hb6⟩
        have hb06 := hbd.trans (hb6.mono hbd.size)
        refine hKK.out _ _ (seg_keep hb06 ?_)
        have RN6 := (hb06.block _ (Array.getElem?_eq_some_iff.1 HRN4.out).1).trans HRN4.out
        have RP6 := (hb06.block _ (Array.getElem?_eq_some_iff.1 HRP4.out).1).trans HRP4.out
        have m0 := cell_of_row w6 _ 0 _ _ _ RN6
        have m1 := cell_of_row w6 _ 1 _ _ _ RN6
        have n0 : w6.cell? ⟨pb, 0, none⟩ = some (.int .u64 (p.term : Int)) := cell_of_row w6 _ 0 _ _ _ RP6
        have n1 : w6.cell? ⟨pb, 1, none⟩ = some (.int .i64 p.node) := cell_of_row w6 _ 1 _ _ _ RP6
        have z0 := frozen_of_row w6 _ 0 _ _ RP6
        have z1 := frozen_of_row w6 _ 1 _ _ RP6
        simp at m0 m1
        have HV6 := Lib.hid (HV4.out.below hb06)
        have HRP6 := Lib.hid RP6
        clear hKK KK hhas hb6 hb06 hbd RN6 RP6
        intro f hf
        simp only [pickI, Option.toList_some, List.cons_append, List.nil_append, List.getElem?_toArray, List.getElem?_cons_succ, List.getElem?_cons_zero]
        repeat (go_big_quiet_step (fail))
        refine wpQuiet_nil ?_
        clear hf f
        go_wp2_with (fail)
        have hset := (keeps_set w6 pb 0 (.int .u64 (v1.term : Int))).trans (keeps_set _ pb 1 (.int .i64 v1.node)) (fun i h => .inl h)
        have hVt := HV6.out.turn (hset.wide (fun i hi => by subst hi; exact ⟨by rw [HX1.out]; exact .inl rfl, HWB.out⟩))
        have hrow := setCell_row (i := 1) (v := .int .i64 v1.node) (setCell_row (i := 0) (v := .int .u64 (v1.term : Int)) HRP6.out)
        have hVe := hVt.more (X' := fun j => j = pb) (Below.refl _ _) (fun j hj => ⟨.inl (by rw [HX1.out]; exact .inl hj), by rw [hj]; exact Nat.lt_of_lt_of_le (Array.getElem?_eq_some_iff.1 HRP6.out).1 hset.size⟩)
        have HVE := Lib.hid hVe
        have HROW := Lib.hid hrow
        clear hset hVt hrow hVe
        go_roundw
        case rel =>
          refine ⟨i + 1, V, by omega, by go_num, rfl, ⟨T, d1, t1, v1, HVE.out.le (by omega), HG1.out, HF1.out.1, HF1.out.2.1, by have := HF1.out.2.2; omega, ?_⟩⟩
          have hrow := HROW.out
          unfold Vv.cells
          simp [Vv.cells] at hrow ⊢
          exact hrow
        case measure => simp [intOf]; omega
      · -- a vote alone, behind Raise
        have hpl := plays_cast p x nd
        rw [← HP1.out] at hpl
        obtain ⟨ga1, ga2⟩ := good_again HG1.out (by have := HF1.out.2.2; omega)
        obtain ⟨t5, ht5⟩ : ∃ t, t = openTv 1 1 (d1.bytes 1 (2 * 1)) := ⟨_, rfl⟩
        rw [← ht5] at ga1 ga2
        have hca := fun {W : World} {T V M : Nat} (h : Vlx X1 w W w.heap.size g T V M d1 t5 v1) (hM : M ≤ 90000) => vcast_any h (ga1.fit (by have := HF1.out.2.2; omega) (by rw [HF1.out.2.1]; decide)) hM x nd hwn ga1.vote
        obtain ⟨s1, s2, s3, s4, s5, s6⟩ := good_step ga1 HF1.out.1 (by have := HF1.out.2.2; omega) (v1.casted x nd) (casted_small v1 x nd)
        generalize hr2 : vstep d1 t5 v1 (v1.casted x nd) = r2 at hca s1 s2 s3 s4 s5 s6
        obtain ⟨d2, t2, v2, f2⟩ := r2
        dsimp only at s1 s2 s3 s4 s5 s6
        rw [← s3, ← s4] at hpl
        rw [← s3] at s1
        have HCA := fun {W : World} {T V M : Nat} => Lib.hid (@hca W T V M)
        have HG2 := Lib.hid s1
        have HF2 := Lib.hid (And.intro s2 (And.intro (s6.trans HF1.out.2.1) (Nat.le_trans s5 (Nat.succ_le_succ (Nat.le_trans ga2 HF1.out.2.2)))))
        have HPL := Lib.hid hpl
        have HGA := Lib.hid ga1
        have HT5 := Lib.hid ht5
        clear hpl ga1 ga2 ht5 hca s1 s2 s3 s4 s5 s6 hr2
        go_upto_region 19 with (first
          | (go_at_call 30; refine HRA.out.mono ?_; rintro e w4 ⟨rfl, hV4, hk4⟩
             have o0 := off_cell hk4 (.inl HXq.out) o0
             have o1 := off_cell hk4 (.inl HXq.out) o1
             have o2 := off_cell hk4 (.inl HXq.out) o2
             have o3 := off_cell hk4 (.inl HXq.out) o3
             have o4 := off_cell hk4 (.inl HXq.out) o4
             have p0 := off_cell hk4 (.inl HXp.out) p0)
          | (go_at_call 28; refine (vopn_any hV4.dlx HGA.out.up 1 (by decide) (by rw [HF1.out.2.1]; decide) t5 HT5.out v1 HGA.out.told).mono ?_; rintro e w5 ⟨T5, V5, rfl, hV5, hb5⟩
             have hk5 : Keeps (Off X1 w) w4 w5 := Keeps.of_below hb5
             have o0 := off_cell hk5 (.inl HXq.out) o0
             have o1 := off_cell hk5 (.inl HXq.out) o1
             have o2 := off_cell hk5 (.inl HXq.out) o2
             have o3 := off_cell hk5 (.inl HXq.out) o3
             have o4 := off_cell hk5 (.inl HXq.out) o4
             have p0 := off_cell hk5 (.inl HXp.out) p0)
          | (go_at_call 31; refine (HCA.out hV5 (by omega)).mono ?_; rintro e w7 ⟨rfl, hV7, hk7⟩
             have o0 := off_cell hk7 (.inl HXq.out) o0
             have o1 := off_cell hk7 (.inl HXq.out) o1
             have o2 := off_cell hk7 (.inl HXq.out) o2
             have o3 := off_cell hk7 (.inl HXq.out) o3
             have o4 := off_cell hk7 (.inl HXq.out) o4
             have p0 := off_cell hk7 (.inl HXp.out) p0)
          | fail)
        have HV7 := Lib.hid hV7
        have HRN7 := Lib.hid (hk7.row (hk5.row (hk4.row HRN1.out (fun h => h.2 HXn.out)) (fun h => h.2 HXn.out)) (fun h => h.2 HXn.out))
        have HRP7 := Lib.hid (hk7.row (hk5.row (hk4.row HRP1.out (fun h => h.2 HXp.out)) (fun h => h.2 HXp.out)) (fun h => h.2 HXp.out))
        clear hV4 hk4 hV5 hb5 hk5 hV7 hk7 p1 HRA
        by_cases hcd : p.term < x ∧ x ≤ 4611686018427387904
        · have hpl := HPL.out
          rw [if_pos hcd] at hpl
          have hnx := vnext_any x x (-1) 1 nd fu kA kn kc w7
          rw [hpl] at hnx
          dsimp only at hnx
          have HNX := Lib.hid hnx
          have q1 : p.term < x := hcd.1
          have q2 : (x : Int) ≤ 4611686018427387904 := by omega
          have q3 : decide (p.term < x) = true := by simpa using hcd.1
          have q4 : decide (x ≤ 4611686018427387904) = true := by simpa using hcd.2
          have q5 : (p.term : Int) < (x : Int) := by omega
          clear hpl hnx hcd
          have m0 := cell_of_row w7 _ 0 _ _ _ HRN7.out
          have m1 := cell_of_row w7 _ 1 _ _ _ HRN7.out
          have y0 := frozen_of_row w7 _ 0 _ _ HRN7.out
          have y1 := frozen_of_row w7 _ 1 _ _ HRN7.out
          have mlt := (Array.getElem?_eq_some_iff.1 HRN7.out).1
          simp at m0 m1
          go_upto_region 21 with (first
            | (go_at_call 29; refine HNX.out.mono ?_; rintro e w8 ⟨rfl, hb8⟩
               have m0 := kept hb8 m0 mlt
               have m1 := kept hb8 m1 mlt
               have y0 := (hb8.frozen (p := ⟨nb, 0, none⟩) mlt).trans y0
               have y1 := (hb8.frozen (p := ⟨nb, 1, none⟩) mlt).trans y1)
            | fail)
          have rn8 := (hb8.block _ mlt).trans HRN7.out
          have rp8 := (hb8.block _ (Array.getElem?_eq_some_iff.1 HRP7.out).1).trans HRP7.out
          obtain ⟨W9, hW9⟩ : ∃ W9, W9 = (w8.setCell ⟨nb, 0, none⟩ (.int .u64 (v2.term : Int))).setCell ⟨nb, 1, none⟩ (.int .i64 v2.node) := ⟨_, rfl⟩
          rw [← hW9]
          have hset := (keeps_set w8 nb 0 (.int .u64 (v2.term : Int))).trans (keeps_set _ nb 1 (.int .i64 v2.node)) (fun i h => .inl h)
          rw [← hW9] at hset
          have rn9 := setCell_row (i := 1) (v := .int .i64 v2.node) (setCell_row (i := 0) (v := .int .u64 (v2.term : Int)) rn8)
          rw [← hW9] at rn9
          simp at rn9
          have HRN9 := Lib.hid rn9
          have HRP9 := Lib.hid (hset.row rp8 (fun h => by have := HNB.out.2; have := HQ.out; omega))
          have HV9 := Lib.hid ((HV7.out.below hb8).turn (hset.wide (fun i hi => by subst hi; exact ⟨HXn.out, by have := HWB.out; have := HNB.out.2; have := HQ.out; omega⟩)))
          clear hb8 rn8 rp8 hW9 hset rn9 m0 m1 y0 y1 o0 o1 o2 o3 o4 p0 HNX HPL HNE
          refine wp_grow [([0, 1, 2, 3, 4, 6], 5)] [7, 8] (by kernel_rfl) (by kernel_rfl) (fun d _ _ _ _ h => by cases d <;> exact h) fun wd hbd => ?_
          intro f hf
          have e0 := fun z => ((hf z).cell (p := ⟨nb, 0, none⟩) (Array.getElem?_eq_some_iff.1 HRN9.out).1).trans (cell_of_row _ _ 0 _ _ _ HRN9.out)
          have e1 := fun z => ((hf z).cell (p := ⟨nb, 1, none⟩) (Array.getElem?_eq_some_iff.1 HRN9.out).1).trans (cell_of_row _ _ 1 _ _ _ HRN9.out)
          simp at e0 e1
          simp only [pickI, Option.toList_some, List.cons_append, List.nil_append, List.getElem?_toArray, List.getElem?_cons_succ, List.getElem?_cons_zero]
          repeat (go_big_quiet_step (fail))
          refine wpQuiet_nil ?_
          clear e0 e1 hf f
          refine seg_op (by simp only [List.getElem?_toArray, List.getElem?_cons_succ, List.getElem?_cons_zero]; rfl) fun KK hKK => ?_
          go_simp
          have hhas := has_any (HV9.out.below hbd).vw (by have := HG2.out.vote; omega)
          unfold Vv.cells at hhas
          refine hhas.mono ?_
          rintro e w6 ⟨rfl, hb6⟩
          have hb06 := hbd.trans (hb6.mono hbd.size)
          refine hKK.out _ _ (seg_keep hb06 ?_)
          have RN6 := (hb06.block _ (Array.getElem?_eq_some_iff.1 HRN9.out).1).trans HRN9.out
          have RP6 := (hb06.block _ (Array.getElem?_eq_some_iff.1 HRP9.out).1).trans HRP9.out
          have m0 := cell_of_row w6 _ 0 _ _ _ RN6
          have m1 := cell_of_row w6 _ 1 _ _ _ RN6
          have n0 : w6.cell? ⟨pb, 0, none⟩ = some (.int .u64 (p.term : Int)) := cell_of_row w6 _ 0 _ _ _ RP6
          have n1 : w6.cell? ⟨pb, 1, none⟩ = some (.int .i64 p.node) := cell_of_row w6 _ 1 _ _ _ RP6
          have z0 := frozen_of_row w6 _ 0 _ _ RP6
          have z1 := frozen_of_row w6 _ 1 _ _ RP6
          simp at m0 m1
          have HV6 := Lib.hid (HV9.out.below hb06)
          have HRP6 := Lib.hid RP6
          clear hKK KK hhas hb6 hb06 hbd RN6 RP6
          intro f hf
          simp only [pickI, Option.toList_some, List.cons_append, List.nil_append, List.getElem?_toArray, List.getElem?_cons_succ, List.getElem?_cons_zero]
          repeat (go_big_quiet_step (fail))
          refine wpQuiet_nil ?_
          clear hf f
          go_wp2_with (fail)
          have hset := (keeps_set w6 pb 0 (.int .u64 (v2.term : Int))).trans (keeps_set _ pb 1 (.int .i64 v2.node)) (fun i h => .inl h)
          have hVt := HV6.out.turn (hset.wide (fun i hi => by subst hi; exact ⟨by rw [HX1.out]; exact .inl rfl, HWB.out⟩))
          have hrow := setCell_row (i := 1) (v := .int .i64 v2.node) (setCell_row (i := 0) (v := .int .u64 (v2.term : Int)) HRP6.out)
          have hVe := hVt.more (X' := fun j => j = pb) (Below.refl _ _) (fun j hj => ⟨.inl (by rw [HX1.out]; exact .inl hj), by rw [hj]; exact Nat.lt_of_lt_of_le (Array.getElem?_eq_some_iff.1 HRP6.out).1 hset.size⟩)
          have HVE := Lib.hid hVe
          have HROW := Lib.hid hrow
          clear hset hVt hrow hVe
          go_roundw
          case rel =>
            refine ⟨i + 1, V5, by omega, by go_num, rfl, ⟨T5, d2, t2, v2, HVE.out.le (by omega), HG2.out, HF2.out.1, HF2.out.2.1, by have := HF2.out.2.2; omega, ?_⟩⟩
            have hrow := HROW.out
            unfold Vv.cells
            simp [Vv.cells] at hrow ⊢
            exact hrow
          case measure => simp [intOf]; omega
        · have hpl := HPL.out
          rw [if_neg hcd, HNE.out] at hpl
          obtain ⟨ea, eb⟩ := Prod.mk.inj hpl
          obtain ⟨eb, ec⟩ := Prod.mk.inj eb
          clear hpl
          subst ea
          subst eb
          subst ec
          clear HPL HNE o0 o2 o3 o4
          by_cases h : p.term < x
          · have q1 : p.term < x := h
            have q2 : (4611686018427387904 : Int) < (x : Int) := by omega
            have q3 : decide (p.term < x) = true := by simpa using h
            have q4 : (p.term : Int) < (x : Int) := by omega
            clear hcd h
            go_upto_region 21 with (fail)
            refine wp_grow [([0, 1, 2, 3, 4, 6], 5)] [7, 8] (by kernel_rfl) (by kernel_rfl) (fun d _ _ _ _ h => by cases d <;> exact h) fun wd hbd => ?_
            intro f hf
            have e0 := fun z => ((hf z).cell (p := ⟨nb, 0, none⟩) (Array.getElem?_eq_some_iff.1 HRN7.out).1).trans (cell_of_row _ _ 0 _ _ _ HRN7.out)
            have e1 := fun z => ((hf z).cell (p := ⟨nb, 1, none⟩) (Array.getElem?_eq_some_iff.1 HRN7.out).1).trans (cell_of_row _ _ 1 _ _ _ HRN7.out)
            simp at e0 e1
            simp only [pickI, Option.toList_some, List.cons_append, List.nil_append, List.getElem?_toArray, List.getElem?_cons_succ, List.getElem?_cons_zero]
            repeat (go_big_quiet_step (fail))
            refine wpQuiet_nil ?_
            clear e0 e1 hf f
            refine seg_op (by simp only [List.getElem?_toArray, List.getElem?_cons_succ, List.getElem?_cons_zero]; rfl) fun KK hKK => ?_
            go_simp
            have hhas := has_any (HV7.out.below hbd).vw (by have := HG2.out.vote; omega)
            unfold Vv.cells at hhas
            refine hhas.mono ?_
            rintro e w6 ⟨rfl, hb6⟩
            have hb06 := hbd.trans (hb6.mono hbd.size)
            refine hKK.out _ _ (seg_keep hb06 ?_)
            have RN6 := (hb06.block _ (Array.getElem?_eq_some_iff.1 HRN7.out).1).trans HRN7.out
            have RP6 := (hb06.block _ (Array.getElem?_eq_some_iff.1 HRP7.out).1).trans HRP7.out
            have m0 := cell_of_row w6 _ 0 _ _ _ RN6
            have m1 := cell_of_row w6 _ 1 _ _ _ RN6
            have n0 : w6.cell? ⟨pb, 0, none⟩ = some (.int .u64 (p.term : Int)) := cell_of_row w6 _ 0 _ _ _ RP6
            have n1 : w6.cell? ⟨pb, 1, none⟩ = some (.int .i64 p.node) := cell_of_row w6 _ 1 _ _ _ RP6
            have z0 := frozen_of_row w6 _ 0 _ _ RP6
            have z1 := frozen_of_row w6 _ 1 _ _ RP6
            simp at m0 m1
            have HV6 := Lib.hid (HV7.out.below hb06)
            have HRP6 := Lib.hid RP6
            clear hKK KK hhas hb6 hb06 hbd RN6 RP6
            intro f hf
            simp only [pickI, Option.toList_some, List.cons_append, List.nil_append, List.getElem?_toArray, List.getElem?_cons_succ, List.getElem?_cons_zero]
            repeat (go_big_quiet_step (fail))
            refine wpQuiet_nil ?_
            clear hf f
            go_wp2_with (fail)
            have hset := (keeps_set w6 pb 0 (.int .u64 (v2.term : Int))).trans (keeps_set _ pb 1 (.int .i64 v2.node)) (fun i h => .inl h)
            have hVt := HV6.out.turn (hset.wide (fun i hi => by subst hi; exact ⟨by rw [HX1.out]; exact .inl rfl, HWB.out⟩))
            have hrow := setCell_row (i := 1) (v := .int .i64 v2.node) (setCell_row (i := 0) (v := .int .u64 (v2.term : Int)) HRP6.out)
            have hVe := hVt.more (X' := fun j => j = pb) (Below.refl _ _) (fun j hj => ⟨.inl (by rw [HX1.out]; exact .inl hj), by rw [hj]; exact Nat.lt_of_lt_of_le (Array.getElem?_eq_some_iff.1 HRP6.out).1 hset.size⟩)
            have HVE := Lib.hid hVe
            have HROW := Lib.hid hrow
            clear hset hVt hrow hVe
            go_roundw
            case rel =>
              refine ⟨i + 1, V5, by omega, by go_num, rfl, ⟨T5, d2, t2, v2, HVE.out.le (by omega), HG2.out, HF2.out.1, HF2.out.2.1, by have := HF2.out.2.2; omega, ?_⟩⟩
              have hrow := HROW.out
              unfold Vv.cells
              simp [Vv.cells] at hrow ⊢
              exact hrow
            case measure => simp [intOf]; omega
          · have q1 : ¬ p.term < x := h
            have q3 : decide (p.term < x) = false := by simpa using h
            have q4 : ¬ (p.term : Int) < (x : Int) := by omega
            have q5 : x ≤ p.term := by omega
            clear hcd h
            go_upto_region 21 with (fail)
            refine wp_grow [([0, 1, 2, 3, 4, 6], 5)] [7, 8] (by kernel_rfl) (by kernel_rfl) (fun d _ _ _ _ h => by cases d <;> exact h) fun wd hbd => ?_
            intro f hf
            have e0 := fun z => ((hf z).cell (p := ⟨nb, 0, none⟩) (Array.getElem?_eq_some_iff.1 HRN7.out).1).trans (cell_of_row _ _ 0 _ _ _ HRN7.out)
            have e1 := fun z => ((hf z).cell (p := ⟨nb, 1, none⟩) (Array.getElem?_eq_some_iff.1 HRN7.out).1).trans (cell_of_row _ _ 1 _ _ _ HRN7.out)
            simp at e0 e1
            simp only [pickI, Option.toList_some, List.cons_append, List.nil_append, List.getElem?_toArray, List.getElem?_cons_succ, List.getElem?_cons_zero]
            repeat (go_big_quiet_step (fail))
            refine wpQuiet_nil ?_
            clear e0 e1 hf f
            refine seg_op (by simp only [List.getElem?_toArray, List.getElem?_cons_succ, List.getElem?_cons_zero]; rfl) fun KK hKK => ?_
            go_simp
            have hhas := has_any (HV7.out.below hbd).vw (by have := HG2.out.vote; omega)
            unfold Vv.cells at hhas
            refine hhas.mono ?_
            rintro e w6 ⟨rfl, hb6⟩
            have hb06 := hbd.trans (hb6.mono hbd.size)
            refine hKK.out _ _ (seg_keep hb06 ?_)
            have RN6 := (hb06.block _ (Array.getElem?_eq_some_iff.1 HRN7.out).1).trans HRN7.out
            have RP6 := (hb06.block _ (Array.getElem?_eq_some_iff.1 HRP7.out).1).trans HRP7.out
            have m0 := cell_of_row w6 _ 0 _ _ _ RN6
            have m1 := cell_of_row w6 _ 1 _ _ _ RN6
            have n0 : w6.cell? ⟨pb, 0, none⟩ = some (.int .u64 (p.term : Int)) := cell_of_row w6 _ 0 _ _ _ RP6
            have n1 : w6.cell? ⟨pb, 1, none⟩ = some (.int .i64 p.node) := cell_of_row w6 _ 1 _ _ _ RP6
            have z0 := frozen_of_row w6 _ 0 _ _ RP6
            have z1 := frozen_of_row w6 _ 1 _ _ RP6
            simp at m0 m1
            have HV6 := Lib.hid (HV7.out.below hb06)
            have HRP6 := Lib.hid RP6
            clear hKK KK hhas hb6 hb06 hbd RN6 RP6
            intro f hf
            simp only [pickI, Option.toList_some, List.cons_append, List.nil_append, List.getElem?_toArray, List.getElem?_cons_succ, List.getElem?_cons_zero]
            repeat (go_big_quiet_step (fail))
            refine wpQuiet_nil ?_
            clear hf f
            go_wp2_with (fail)
            have hset := (keeps_set w6 pb 0 (.int .u64 (v2.term : Int))).trans (keeps_set _ pb 1 (.int .i64 v2.node)) (fun i h => .inl h)
            have hVt := HV6.out.turn (hset.wide (fun i hi => by subst hi; exact ⟨by rw [HX1.out]; exact .inl rfl, HWB.out⟩))
            have hrow := setCell_row (i := 1) (v := .int .i64 v2.node) (setCell_row (i := 0) (v := .int .u64 (v2.term : Int)) HRP6.out)
            have hVe := hVt.more (X' := fun j => j = pb) (Below.refl _ _) (fun j hj => ⟨.inl (by rw [HX1.out]; exact .inl hj), by rw [hj]; exact Nat.lt_of_lt_of_le (Array.getElem?_eq_some_iff.1 HRP6.out).1 hset.size⟩)
            have HVE := Lib.hid hVe
            have HROW := Lib.hid hrow
            clear hset hVt hrow hVe
            go_roundw
            case rel =>
              refine ⟨i + 1, V5, by omega, by go_num, rfl, ⟨T5, d2, t2, v2, HVE.out.le (by omega), HG2.out, HF2.out.1, HF2.out.2.1, by have := HF2.out.2.2; omega, ?_⟩⟩
              have hrow := HROW.out
              unfold Vv.cells
              simp [Vv.cells] at hrow ⊢
              exact hrow
            case measure => simp [intOf]; omega
    · obtain rfl : i = n := by omega
      obtain ⟨ga1, ga2⟩ := good_again hG (by omega)
      obtain ⟨t5, ht5⟩ : ∃ t, t = openTv 1 1 (d.bytes 1 (2 * 1)) := ⟨_, rfl⟩
      rw [← ht5] at ga1
      have hop := vopn_any hV.dlx ga1.up 1 (by decide) (by rw [hdn]; decide) t5 ht5 p ga1.told
      have HOP := Lib.hid hop
      have HG5 := Lib.hid ga1
      have HRP := Lib.hid hpr
      clear hop ga1 ga2 ht5 hV hG hf hdn hnx hpr
      go_upto_region 26 with (first
        | (go_at_call 28; refine HOP.out.mono ?_; rintro e w5 ⟨T5, V5, rfl, hV5, hb5⟩)
        | fail)
      have HV5 := Lib.hid hV5
      have HR5 := Lib.hid ((hb5.block _ (Array.getElem?_eq_some_iff.1 HRP.out).1).trans HRP.out)
      clear hV5 hb5
      refine wp_grow [([0, 1, 2, 3, 5], 4), ([6, 7, 8], 9)] [10, 11] (by kernel_rfl) (by kernel_rfl) (fun d _ _ _ _ h => by cases d <;> exact h) fun wd hbd => ?_
      intro f hf
      have e0 := fun z => ((hf z).cell (p := ⟨pb, 0, none⟩) (Array.getElem?_eq_some_iff.1 HR5.out).1).trans (cell_of_row _ _ 0 _ _ _ HR5.out)
      have e1 := fun z => ((hf z).cell (p := ⟨pb, 1, none⟩) (Array.getElem?_eq_some_iff.1 HR5.out).1).trans (cell_of_row _ _ 1 _ _ _ HR5.out)
      unfold Vv.cells at e0 e1
      simp at e0 e1
      simp only [pickI, Option.toList_some, List.cons_append, List.nil_append, List.getElem?_toArray, List.getElem?_cons_succ, List.getElem?_cons_zero]
      repeat (go_big_quiet_step (fail))
      refine wpQuiet_nil ?_
      clear e0 e1 hf f
      refine seg_op (by simp only [List.getElem?_toArray, List.getElem?_cons_succ, List.getElem?_cons_zero]; rfl) fun KK hKK => ?_
      go_simp
      have hhas := has_any (HV5.out.below hbd).vw (by have := HG5.out.vote; omega)
      unfold Vv.cells at hhas
      refine hhas.mono ?_
      rintro e w6 ⟨rfl, hb6⟩
      have hb06 := hbd.trans (hb6.mono hbd.size)
      refine hKK.out _ _ (seg_keep hb06 ?_)
      clear hKK KK hhas hb6 hbd
      intro f hf
      simp only [pickI, Option.toList_some, List.cons_append, List.nil_append, List.getElem?_toArray, List.getElem?_cons_succ, List.getElem?_cons_zero]
      repeat (go_big_quiet_step (fail))
      refine wpQuiet_nil ?_
      clear hf f
      refine seg_op (by simp only [List.getElem?_toArray, List.getElem?_cons_succ, List.getElem?_cons_zero]; rfl) fun KK hKK => ?_
      go_simp
      refine (lives12 _).mono ?_
      rintro e w7 ⟨rfl, hb7⟩
      have hb07 := hb06.trans (hb7.mono hb06.size)
      refine hKK.out _ _ (seg_keep hb07 ?_)
      have HB7 := Lib.hid (HV5.out.bel.trans (hb07.mono HV5.out.bel.size))
      clear hKK KK hb7 hb06 hb07
      intro f hf
      simp only [pickI, Option.toList_some, List.cons_append, List.nil_append, List.getElem?_toArray, List.getElem?_cons_succ, List.getElem?_cons_zero]
      repeat (go_big_quiet_step (fail))
      refine wpQuiet_nil ?_
      clear hf f
      go_wp2_with (fail)
      go_ret
      exact ⟨rfl, HB7.out⟩
theorem vowPlays_walk {A : Option Addr} {n c : Nat} {os : List Vop} {w : World} (h : Slc Vop.lay w A n c os) :
    Calls Try.prog 6 #[.slice A n c] w fun e w' => e = .returned (.bool true) ∧ Below w.heap.size w w' := vowPlays_at h
namespace vowPlays
open Go.ChangeShapes Go.WideShapes Go.ChangeAt
set_option maxRecDepth 100000 in
theorem lifted (os : Os) (started : os.Started) (H : Type) (enc : TypeId × Value → H) :
    ReturnsInHanded {} Try.checked os 6 .any (Rows.vowPlaysSpec.pre6 enc Try.prog Try.f6 Rows.vowPlaysRow.domain false) (Rows.vowPlaysSpec.post enc Try.prog Try.f6 false true false false) := by
  refine returnsInHanded_of_change (C := Try.checked) own started (by kernel_rfl) Try.func6
    (ChangeSpec.witness6 (enc := enc) (C := Try.checked) false ⟨#[], #[.slice none 0 0], []⟩ 8 (by kernel_rfl) (by kernel_rfl) (by kernel_rfl) (by kernel_rfl)) ?_
  intro W base args ds gs before hval0 hW _ _
  have hval : ∀ (j : Nat) t v, Try.f6.params[j]? = some t → args[j]? = some v → Value.okWide Try.prog W .any base t v := hval0
  have hW' := hW
  obtain ⟨p, q, hA0, hV, rfl, hfz, hnd⟩ := hW
  have hA : DataW.TrodAll enc Try.prog W 0 (fun _ => true) true Try.f6.params.toList args.toList ds p := hA0
  rw [Try.params6] at hA hval
  obtain ⟨v0, vs0, d0, ds0, p0, q0, hargs, rfl, rfl, h0, r0⟩ := trodAll_cons hA
  obtain ⟨rfl, rfl, rfl⟩ := trodAll_nil r0
  obtain rfl : args = #[v0] := by cases args; simp_all
  obtain ⟨rfl, rfl⟩ := trodVars_none hV
  have k0 := h0
  have lt0 : ∀ x ∈ p0, x.block < W.heap.size := by obtain ⟨m, hm⟩ := k0; exact DataW.trod_lt m _ _ _ hm
  obtain ⟨a0, n0, c0, l0, rfl, w0⟩ := Vop.dec (hval 0 69 v0 rfl rfl) h0
  clear hA0 hval0
  refine (vowPlays_walk w0).mono fun e W' ⟨he, bel⟩ => ?_
  subst he
  exact ⟨_, rfl, _, _, _, [], _, [], hW', trodAll_mk1 (shut_bool Try.underlying4 _), (trodAll_cons_mk (Below.trod laidOut (by kernel_rfl) (of_decide_eq_true (by kernel_rfl)) k0 bel lt0) trodAll_mk0), rfl, bel.frame _, fun h => by cases h⟩

theorem over : Rows.vowPlaysRow.holds Try.pinned (OpenSpec.ofChange Rows.vowPlaysSpec) :=
  OpenClaim.holds_of_wide 6 Try.f6 rfl rfl rfl rfl rfl rfl rfl ⟨rfl, rfl, rfl, rfl, rfl⟩ rfl rfl rfl rfl rfl (by kernel_rfl) Try.func6 (by kernel_rfl)
    (of_decide_eq_true (by kernel_rfl)) (by unfold Func.isWrapper; first | (rw [if_pos (by decide +kernel)]; kernel_rfl) | (rw [if_neg (by decide +kernel)]; exact ⟨rfl, rfl⟩))
    (fun os started H enc _ => lifted os started H enc)
/-- The given statement. -/
theorem proved : Rows.VowPlaysSaid := over
end vowPlays

end Go.Proofs.Yteakdmabdfpiiaa
