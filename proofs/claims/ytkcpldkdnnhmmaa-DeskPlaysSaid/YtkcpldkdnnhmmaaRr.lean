/- The reference's Read. -/
import Derived.Test.YtkcpldkdnnhmmaaRd
import Derived.Test.YtkcpldkdnnhmmaaDs
import Derived.Test.YtkcpldkdnnhmmaaTreeF
namespace Go.Proofs.Ytkcpldkdnnhmmaa
open Go.RowKit
set_option maxRecDepth 20000

set_option maxHeartbeats 4000000 in
theorem rread_any {w : World} {B g hg : Nat} {v : Value} {t : Dk} (h : Rg w B g hg v t) (hB : B ≤ w.heap.size) (c r f k : Nat) (hr : t.round < 1000000) :
    Calls Try.prog 24 #[.pointer (some ⟨g, 0, none⟩), .int .u64 (c : Int), .int .u64 (r : Int), .agg #[.int .u32 (f : Int), .int .u32 (k : Int)]] w fun e w' => e = .returned (.tuple #[.int .u64 (t.readN c r : Int), .int .i64 (t.readE c r)]) ∧ RMv w B g hg v (t.read c r f k) w' := by
  obtain ⟨W, hW, hz, s0, hb⟩ := Qu.boxes1 w #[.int .u32 (f : Int), .int .u32 (k : Int)] 32
  have hroom := h.ok.room
  obtain ⟨A, cc, rfl⟩ := h.form
  have HH := Lib.hid (h.below hb)
  have HBW := Lib.hid hb
  have HB := Lib.hid hB
  have HZ := Lib.hid hz
  have HS := Lib.hid s0
  have HR := Lib.hid hr
  have HFT := Lib.hid (fun j (hj : RFoot g hg (.slice A t.l.length cc) j) => (h.foot hj).2)
  clear h hb hB hz s0 hr
  subst hW
  go_enter Try.func24, Try.ntmps24
  go_wp2_with (fail)
  obtain ⟨W, hW⟩ : ∃ W, W = w.alloc (.cells #[.int .u32 (f : Int), .int .u32 (k : Int)] 32) := ⟨_, rfl⟩
  rw [← hW] at HH HBW HZ HS ⊢
  clear hW
  go_loopw [10, 11] (fun lr ir wr => ∃ i : Nat, i ≤ t.l.length ∧ ir = .int .i64 (i : Int) ∧ Hid (ROne W wr lr ((t.l.take i).filter fun x => !Wt.rdr c r x)) ∧ Hid (Below W.heap.size W wr)) (fun _ ir _ => t.l.length - (intOf ir).toNat)
  case atStart => exact ⟨0, Nat.zero_le _, rfl, Lib.hid ⟨Below.refl _ _, World.ownsRow_nil _ _ _ _⟩, Lib.hid (Below.refl _ _)⟩
  case round =>
    obtain ⟨i, hi, rfl, HO, HBl⟩ := hrel
    by_cases hlt : i < t.l.length
    · skip
      obtain ⟨y, hy⟩ : ∃ y, t.l[i]? = some y := ⟨_, List.getElem?_eq_getElem (by omega)⟩
      have hrd := ownsRow_rd (HH.out.below HBl.out).own
      obtain ⟨b, o, hA, hbb, hcc⟩ := hrd.2.2.2 (by omega)
      subst hA
      have hce := fun j u (hu : y.cells[j]? = some u) => hcc _ _ (wts_get t.l i y hy j u hu)
      have r0 := (HH.out.below HBl.out).c2
      have hlti : (i : Int) < (t.l.length : Int) := by omega
      have hii : (i : Int) ≤ 64 := by omega
      have hli : (t.l.length : Int) ≤ 64 := by omega
      have d5 : decide ((i : Int) < (t.l.length : Int)) = true := by simpa using hlti
      obtain ⟨A1, c1, rfl⟩ := ownsRow_form HO.out.own
      have hll : ((t.l.take i).filter fun x => !Wt.rdr c r x).length ≤ 64 := Nat.le_trans (List.length_filter_le _ _) (by rw [List.length_take]; omega)
      obtain ⟨cl, rq, ix, fr, ct, rd⟩ := y
      unfold Wt.cells at hce
      dsimp only at hce
      have k0 := hce 0 _ rfl
      have k1 := hce 1 _ rfl
      have k2 := hce 2 _ rfl
      have k3 := hce 3 _ rfl
      have k4 := hce 4 _ rfl
      have k5 := hce 5 _ rfl
      try dsimp only at k0 k1 k2 k3 k4 k5
      simp only [← Nat.add_assoc, Nat.add_zero] at k0 k1 k2 k3 k4 k5
      clear hce
      clear hrd hcc
      by_cases z0 : ix = 0
      · subst z0
        by_cases z1 : cl = c
        · subst z1
          by_cases z2 : rq = r
          · subst z2
            have hp : ¬ (!Wt.rdr cl rq ⟨cl, rq, 0, fr, ct, rd⟩) = true := by
              unfold Wt.rdr Wt.isRead Wt.isOf
              simp
            have hf := filter_take (fun x => !Wt.rdr cl rq x) t.l hy
            rw [if_neg hp, List.append_nil] at hf
            have HF := Lib.hid hf
            clear hf hp hy
            go_wp2
            go_roundw
            case rel =>
              refine ⟨i + 1, by omega, by go_num, ?_, HBl⟩
              rw [HF.out]
              exact HO
            case measure => simp [intOf]; omega
          · have z2d : decide ((rq : Int) = (r : Int)) = false := by rw [dec_nat]; simpa using z2
            have z2p : ¬ (rq : Int) = (r : Int) := by omega
            have z2b : ((rq : Int) == (r : Int)) = false := by rw [beq_nat]; simpa using z2
            have hp : (!Wt.rdr cl r ⟨cl, rq, 0, fr, ct, rd⟩) = true := by
              unfold Wt.rdr Wt.isRead Wt.isOf
              simp [z2]
            have hf := filter_take (fun x => !Wt.rdr cl r x) t.l hy
            rw [if_pos hp] at hf
            have HF := Lib.hid hf
            clear hf hp hy
            go_wp2_with (first
              | (at_builtin; refine wpL_app rfl _ _ _ _ rfl E_rwt rfl rfl (HO.out.below ((Below.refl _ _).alloc (Nat.le_refl _) _)).own (Src.lit' rfl (n := 1) (sz := 6) Try.underlying41 #[.int .u64 (cl : Int), .int .u64 (rq : Int), .int .u64 ((0 : Nat) : Int), .int .u32 (fr : Int), .int .u32 (ct : Int), .int .u64 (rd : Int)] rfl (by simp [Value.oneCell'])) (by unfold maxLen; omega) (by omega) (Nat.le_trans HO.out.bel.size (by simp)) ?_; intro v3 w3 hown3 hg3 hat3)
              | fail)
            go_roundw
            case rel =>
              have hone := (HO.out.below ((Below.refl _ _).alloc (Nat.le_refl _) _)).app (x := ⟨cl, rq, 0, fr, ct, rd⟩) hown3 hg3
              refine ⟨i + 1, by omega, by go_num, ?_, Lib.hid hone.bel⟩
              refine Lib.hid ?_
              rw [HF.out]
              exact hone
            case measure => simp [intOf]; omega
        · have z1d : decide ((cl : Int) = (c : Int)) = false := by rw [dec_nat]; simpa using z1
          have z1p : ¬ (cl : Int) = (c : Int) := by omega
          have z1b : ((cl : Int) == (c : Int)) = false := by rw [beq_nat]; simpa using z1
          have hp : (!Wt.rdr c r ⟨cl, rq, 0, fr, ct, rd⟩) = true := by
            unfold Wt.rdr Wt.isRead Wt.isOf
            simp [z1]
          have hf := filter_take (fun x => !Wt.rdr c r x) t.l hy
          rw [if_pos hp] at hf
          have HF := Lib.hid hf
          clear hf hp hy
          go_wp2_with (first
            | (at_builtin; refine wpL_app rfl _ _ _ _ rfl E_rwt rfl rfl (HO.out.below ((Below.refl _ _).alloc (Nat.le_refl _) _)).own (Src.lit' rfl (n := 1) (sz := 6) Try.underlying41 #[.int .u64 (cl : Int), .int .u64 (rq : Int), .int .u64 ((0 : Nat) : Int), .int .u32 (fr : Int), .int .u32 (ct : Int), .int .u64 (rd : Int)] rfl (by simp [Value.oneCell'])) (by unfold maxLen; omega) (by omega) (Nat.le_trans HO.out.bel.size (by simp)) ?_; intro v3 w3 hown3 hg3 hat3)
            | fail)
          go_roundw
          case rel =>
            have hone := (HO.out.below ((Below.refl _ _).alloc (Nat.le_refl _) _)).app (x := ⟨cl, rq, 0, fr, ct, rd⟩) hown3 hg3
            refine ⟨i + 1, by omega, by go_num, ?_, Lib.hid hone.bel⟩
            refine Lib.hid ?_
            rw [HF.out]
            exact hone
          case measure => simp [intOf]; omega
      · have z0d : decide (0 < (ix : Int)) = true := by simp; omega
        have z0p : 0 < (ix : Int) := by omega
        have hp : (!Wt.rdr c r ⟨cl, rq, ix, fr, ct, rd⟩) = true := by
          unfold Wt.rdr Wt.isRead Wt.isOf
          simp [z0]
        have hf := filter_take (fun x => !Wt.rdr c r x) t.l hy
        rw [if_pos hp] at hf
        have HF := Lib.hid hf
        clear hf hp hy
        go_wp2_with (first
          | (at_builtin; refine wpL_app rfl _ _ _ _ rfl E_rwt rfl rfl (HO.out.below ((Below.refl _ _).alloc (Nat.le_refl _) _)).own (Src.lit' rfl (n := 1) (sz := 6) Try.underlying41 #[.int .u64 (cl : Int), .int .u64 (rq : Int), .int .u64 (ix : Int), .int .u32 (fr : Int), .int .u32 (ct : Int), .int .u64 (rd : Int)] rfl (by simp [Value.oneCell'])) (by unfold maxLen; omega) (by omega) (Nat.le_trans HO.out.bel.size (by simp)) ?_; intro v3 w3 hown3 hg3 hat3)
          | fail)
        go_roundw
        case rel =>
          have hone := (HO.out.below ((Below.refl _ _).alloc (Nat.le_refl _) _)).app (x := ⟨cl, rq, ix, fr, ct, rd⟩) hown3 hg3
          refine ⟨i + 1, by omega, by go_num, ?_, Lib.hid hone.bel⟩
          refine Lib.hid ?_
          rw [HF.out]
          exact hone
        case measure => simp [intOf]; omega
    · obtain rfl : i = t.l.length := by omega
      rw [List.take_of_length_le (Nat.le_refl _)] at HO
      have d5 : decide ((t.l.length : Int) < (t.l.length : Int)) = false := by simp
      have r0 := (HH.out.below HBl.out).c2
      have f0 := (HH.out.below HBl.out).fr 2
      have hli : (t.l.length : Int) ≤ 64 := by omega
      have hl2 : (t.l.filter fun x => !Wt.rdr c r x).length ≤ 64 := Nat.le_trans (List.length_filter_le _ _) hroom
      obtain ⟨A1, c1, rfl⟩ := ownsRow_form HO.out.own
      have hl2i : ((t.l.filter fun x => !Wt.rdr c r x).length : Int) ≤ 64 := by omega
      have hm := HH.out.waits (w1 := wr) (l2 := t.l.filter fun x => !Wt.rdr c r x) (Keeps.of_below HBl.out) (own_base HO.out.own (Nat.le_trans HB.out HBW.out.size)) (.inr fun q hq => (HO.out.own.lt q hq).1) hl2 (fun x hx => HH.out.ok.ix x (List.mem_filter.1 hx).1)
      have HM := Lib.hid hm
      obtain ⟨u, hu⟩ : ∃ u, u = t.without c r := ⟨_, rfl⟩
      have hul : u.l = t.l.filter fun x => !Wt.rdr c r x := by rw [hu]; rfl
      have hur : u.round = t.round := by rw [hu]; rfl
      have HUU := Lib.hid hu
      have HUT : Hid (t.wait (t.l.filter fun x => !Wt.rdr c r x) = u) := Lib.hid (by rw [hu]; rfl)
      rw [HUT.out] at HM
      rw [← hul] at HM HO hl2 hl2i ⊢
      have hnf : ∀ q, w.heap.size ≤ q → q ≤ w.heap.size → (Value.slice A1 u.l.length c1).ownBlock ≠ some q := fun q h1 h2 e => by
        have := (HO.out.own.lt q e).1
        have := HZ.out
        omega
      have hset := HH.out.waits (w1 := wr) (v2 := .slice A1 u.l.length c1) (l2 := u.l) (Keeps.of_below HBl.out) (own_base HO.out.own (Nat.le_trans HB.out HBW.out.size)) (.inr fun q hq => (HO.out.own.lt q hq).1) hl2 (fun x hx => by rw [hul] at hx; exact HH.out.ok.ix x (List.mem_filter.1 hx).1)
      have hrowr := (HH.out.below HBl.out).row
      obtain ⟨w2, hw2⟩ : ∃ w2, w2 = wr.setCell ⟨g, 2, none⟩ (.slice A1 u.l.length c1) := ⟨_, rfl⟩
      have hrow2 := heap_setCell_same wr g 2 _ _ (.slice A1 u.l.length c1) hrowr
      rw [← hw2, List.setIfInBounds_toArray] at hrow2
      have e2 : w2.cell? ⟨g, 2, none⟩ = some (.slice A1 u.l.length c1) := cell_of_row w2 g 2 _ _ _ hrow2
      have e3 : w2.cell? ⟨g, 3, none⟩ = some (.int .u64 (t.round : Int)) := cell_of_row w2 g 3 _ _ _ hrow2
      have f3 : w2.frozen? ⟨g, 3, none⟩ = false := frozen_of_row w2 g 3 _ _ hrow2
      have HW2 := Lib.hid hw2
      clear hm hu hlt hset hrowr hrow2 hw2
      by_cases hf : 64 ≤ u.l.length
      · have hfull : (t.without c r).full = true := by rw [← HUU.out]; unfold Dk.full; simpa using hf
        have d6 : decide (64 ≤ (u.l.length : Int)) = true := by simp; omega
        have d7 : 64 ≤ (u.l.length : Int) := by omega
        have hE : t.readN c r = 0 ∧ t.readE c r = 53 ∧ t.read c r f k = u := by
          unfold Dk.readN Dk.readE Dk.read
          rw [hfull]
          exact ⟨rfl, rfl, HUU.out.symm⟩
        have HE := Lib.hid hE
        clear hE hfull hf hur hul
        rw [← HW2.out] at HM
        go_wp2_with (rw [← HW2.out])
        trace_state
        go_ret2
        rw [HE.out.1, HE.out.2.1, HE.out.2.2]
        exact ⟨rfl, RMv.pre (Keeps.of_below HBW.out) HM.out⟩
      · have hfull : (t.without c r).full = false := by rw [← HUU.out]; unfold Dk.full; simpa using hf
        have d6 : decide (64 ≤ (u.l.length : Int)) = false := by simp; omega
        have d7 : ¬ 64 ≤ (u.l.length : Int) := by omega
        obtain ⟨R, hR⟩ : ∃ R, R = t.round + 1 := ⟨_, rfl⟩
        have hE : t.readN c r = R ∧ t.readE c r = 0 ∧ t.read c r f k = (u.turn R).wait (u.l ++ [⟨c, r, 0, f, k, R⟩]) := by
          unfold Dk.readN Dk.readE Dk.read
          rw [hfull, hR, HUU.out]
          exact ⟨rfl, rfl, rfl⟩
        have HE := Lib.hid hE
        have hRi : (t.round : Int) + 1 = (R : Int) := by omega
        have hwr : IntKind.u64.wrap ((t.round : Int) + 1) = (t.round : Int) + 1 := u64w' _ (by omega) (by have := HR.out; omega)
        have hrb : (t.round : Int) + 1 ≤ 1000000 := by have := HR.out; omega
        rw [← HW2.out] at HM
        obtain ⟨v', hv', hk', hown'⟩ := HM.out
        have hvv := hv'.c2
        rw [e2] at hvv
        obtain rfl := Option.some.inj hvv
        have hc3 := hv'.cell (j := 3) (u := .int .u64 (R : Int)) (t' := u.turn R) rfl rfl rfl (hv'.ok.turn R)
        have HC3 := Lib.hid hc3
        have HV1 := Lib.hid hv'
        have HK1 := Lib.hid hk'
        have HW1 := Lib.hid hown'
        have hl64 : u.l.length < 64 := by omega
        have HL64 := Lib.hid hl64
        have hsb : Reads3 g w.heap.size R f k (w2.setCell ⟨g, 3, none⟩ (.int .u64 (R : Int))) := by
          have hgp : w.heap.size ≠ g := by have := HFT.out g (.inl rfl); omega
          have b0 : W.cell? ⟨w.heap.size, 0, none⟩ = some (.int .u32 (f : Int)) := cell_of_row W _ 0 _ _ _ HS.out
          have b1 : W.cell? ⟨w.heap.size, 1, none⟩ = some (.int .u32 (k : Int)) := cell_of_row W _ 1 _ _ _ HS.out
          have hn : ¬ RFoot g hg (.slice A t.l.length cc) w.heap.size := fun hj => by have := HFT.out _ hj; omega
          exact ⟨hc3.1.c3, keeps_cell (Keeps.set w2 g 3 _) (keeps_cell hk' b0 hn) hgp, keeps_cell (Keeps.set w2 g 3 _) (keeps_cell hk' b1 hn) hgp⟩
        have HSB := Lib.hid hsb
        have HRi := Lib.hid hRi
        clear hE hfull hf hur hul hvv hv' hk' hown' hc3 hsb HM hl64 hRi hR
        go_wp2_with (first | rw [← HW2.out] | fail)
        rw [HRi.out]
        obtain ⟨w3, hw3⟩ : ∃ w3, w3 = w2.setCell ⟨g, 3, none⟩ (.int .u64 (R : Int)) := ⟨_, rfl⟩
        rw [← hw3] at HC3 HSB ⊢
        obtain ⟨t5, ht5⟩ : ∃ t5, t5 = u.turn R := ⟨_, rfl⟩
        have hl5 : u.l = t5.l := by rw [ht5]; rfl
        rw [← ht5] at HC3 HE
        rw [hl5] at HC3 HE HL64 HW1 hl2i d6 d7 hnf ⊢
        have H5 := Lib.hid HC3.out.1
        have HS3 := HSB
        have HGP : Hid (g ≠ w.heap.size) := Lib.hid (by have := HFT.out g (.inl rfl); omega)
        have hnf2 := Lib.hid hnf
        have HFIN : Hid (∀ w', RMv w3 B g hg (.slice A1 t5.l.length c1) (t5.wait (t5.l ++ [⟨c, r, 0, f, k, R⟩])) w' → RMv w B g hg (.slice A t.l.length cc) (t5.wait (t5.l ++ [⟨c, r, 0, f, k, R⟩])) w') := Lib.hid (fun w' m => RMv.pre (Keeps.of_below HBW.out) (RMv.trans1 (RMv.pre HC3.out.2 m) HK1.out HW1.out))
        have HB3B := Lib.hid (Nat.le_trans HB.out (Nat.le_trans HBW.out.size (Nat.le_trans HK1.out.size HC3.out.2.size)))
        have HLEN : Hid (t5.l.length + [(⟨c, r, 0, f, k, R⟩ : Wt)].length ≤ 64) := Lib.hid (by have := HL64.out; show t5.l.length + 1 ≤ 64; omega)
        have HIX : Hid (∀ x ∈ t5.l ++ [(⟨c, r, 0, f, k, R⟩ : Wt)], x.ix < 18446744073709551616) := Lib.hid (fun x hx => by
          rcases List.mem_append.1 hx with hx | hx
          · exact H5.out.ok.ix x hx
          · cases List.mem_singleton.1 hx
            exact (show 0 < 18446744073709551616 by decide))
        clear hw3 ht5 hl5 HC3 HSB HV1 HK1 HW1 HO hnf HW2 HUU HUT HL64 HBl e2 hl2
        refine wp_treeS (Reads3 g w.heap.size R f k) (.two [0, 1, 2, 3, 5, 6, 7, 8, 9, 10, 11, 12] 4 13 (.one [] 13 (.one [] 14 (.one [15, 16] 17 (.fin [])))) (.one [] 4 (.one [] 14 (.one [15, 16] 17 (.fin []))))) (by kernel_rfl) (by kernel_rfl) (fun d _ _ _ _ h => by cases d <;> exact h) HS3.out ?_
        obtain ⟨wd, hwd⟩ : ∃ wd, wd = w3.drew := ⟨_, rfl⟩
        have hbd : Below w3.heap.size w3 wd := by rw [hwd]; exact (Below.refl _ _).drew
        rw [← hwd]
        clear hwd
        have HSD : Hid (Reads3 g w.heap.size R f k wd) := Lib.hid (HS3.out.keeps (Keeps.of_below (F := fun _ => False) hbd) (fun h => h) (fun h => h))
        intro q hq
        have F1 := fun z => (hq z).1
        have F2 := fun z => (hq z).2.1
        have F3 := fun z => (hq z).2.2
        simp only [pickI, Option.toList_some, List.cons_append, List.nil_append, List.getElem?_toArray, List.getElem?_cons_succ, List.getElem?_cons_zero]
        try go_frame
        iterate 12 go_big_quiet_step (fail)
        refine wpQuiet_nil ?_
        clear hq q F1 F2 F3
        have hWd := Lib.hid (H5.out.below hbd)
        obtain ⟨w1, hw1⟩ : ∃ w1, w1 = wd.alloc (.cells #[.int .u64 (c : Int), .int .u64 (r : Int), .int .u64 0, .int .u32 (f : Int), .int .u32 (k : Int), .int .u64 (R : Int)] 68) := ⟨_, rfl⟩
        have hb1 : Below wd.heap.size wd w1 := by rw [hw1]; exact (Below.refl _ _).alloc (Nat.le_refl _) _
        have hW1 := Lib.hid (hWd.out.below hb1)
        have hbs : (Instr.buildSlice 41 1 #[(0, .agg #[.int .u64 (c : Int), .int .u64 (r : Int), .int .u64 0, .int .u32 (f : Int), .int .u32 (k : Int), .int .u64 (R : Int)])]).run Try.prog wd = .ok (.slice (some ⟨wd.heap.size, 0, none⟩) 1 1) w1 := by
          rw [hw1]
          simp [Instr.buildSlice, go_sem]
        have hsrc : Src Try.prog 6 41 (.slice (some ⟨wd.heap.size, 0, none⟩) 1 1) 1 [.int .u64 (c : Int), .int .u64 (r : Int), .int .u64 0, .int .u32 (f : Int), .int .u32 (k : Int), .int .u64 (R : Int)] w1 := by
          rw [hw1]
          exact Src.lit' rfl Try.underlying41 #[.int .u64 (c : Int), .int .u64 (r : Int), .int .u64 0, .int .u32 (f : Int), .int .u32 (k : Int), .int .u64 (R : Int)] rfl (by simp [Value.oneCell'])
        have HS1 : Hid (Reads3 g w.heap.size R f k w1) := Lib.hid (HSD.out.keeps (Keeps.of_below (F := fun _ => False) hb1) (fun h => h) (fun h => h))
        have HSRC := Lib.hid hsrc
        have HBS := Lib.hid hbs
        have HB1 := Lib.hid hb1
        have HBD := Lib.hid hbd
        have e0 := hWd.out.c2
        have e1 := hW1.out.c2
        clear hsrc hbs hb1 hbd hw1
        constructor
        · skip
          refine seg_op (by simp only [List.getElem?_toArray, List.getElem?_cons_succ, List.getElem?_cons_zero]; rfl) fun K hK => ?_
          go_simp
          refine hK.out _ _ ⟨HSD.out, ?_⟩
          clear hK K
          try go_frame
          intro q hq
          refine wpQuiet_nil ?_
          clear hq q
          refine seg_op (by simp only [List.getElem?_toArray, List.getElem?_cons_succ, List.getElem?_cons_zero]; rfl) fun K hK => ?_
          refine ite_ok rfl ?_
          refine wp_bslice _ 1 (.tmp 94) rfl rfl HBS.out ?_
          refine hK.out _ _ ⟨HS1.out, ?_⟩
          clear hK K
          try go_frame
          intro q hq
          refine wpQuiet_nil ?_
          clear hq q
          refine seg_op (by simp only [List.getElem?_toArray, List.getElem?_cons_succ, List.getElem?_cons_zero]; rfl) fun K hK => ?_
          rw [if_pos (by rfl)]
          refine wp_app (.tmp 86) (.tmp 95) _ _ rfl E_rwt rfl rfl hW1.out.own HSRC.out (by unfold maxLen; omega) (by omega) (Nat.le_trans HB3B.out (Nat.le_trans HBD.out.size HB1.out.size)) ?_
          intro v4 w4 hown4 hg4 hat4
          obtain ⟨A4, c4, rfl⟩ := ownsRow_form hown4
          have hk4 : Keeps (fun j => (Value.slice A1 t5.l.length c1).ownBlock = some j) w1 w4 := (Keeps.refl _ _).grown hg4 (fun q hq => .inl hq)
          have hm5 := hW1.out.waits (l2 := t5.l ++ [⟨c, r, 0, f, k, R⟩]) hk4 (by rw [List.length_append, wts_app, wts_one1]; exact hown4) (hat4.imp id (fun e q hq => by rw [e] at hq; cases hq; exact Nat.le_refl _)) (by rw [List.length_append]; exact HLEN.out) HIX.out
          have hr4 := hk4.row hW1.out.row hW1.out.vg
          have f0 : w4.frozen? ⟨g, 2, none⟩ = false := frozen_of_row w4 g 2 _ _ hr4
          have d0 : w4.cell? ⟨g, 2, none⟩ = some (.slice A1 t5.l.length c1) := (keeps_cell hk4 hW1.out.c2 hW1.out.vg)
          have hs4 : Reads3 g w.heap.size R f k w4 := HS1.out.keeps hk4 hW1.out.vg (hnf2.out _ (Nat.le_refl _) (Nat.le_refl _))
          have hs5 : Reads3 g w.heap.size R f k (w4.setCell ⟨g, 2, none⟩ (.slice A4 (t5.l.length + 1) c4)) := ⟨by
            rw [cell_of_row _ g 3 _ _ _ (by rw [heap_setCell_same w4 g 2 _ _ _ hr4]), List.setIfInBounds_toArray]
            have := hs4.1
            rw [cell_of_row w4 g 3 _ _ _ hr4] at this
            exact this, keeps_cell (Keeps.set w4 g 2 _) hs4.2.1 (fun e => HGP.out e.symm), keeps_cell (Keeps.set w4 g 2 _) hs4.2.2 (fun e => HGP.out e.symm)⟩
          have HS5 := Lib.hid hs5
          have HM5 := Lib.hid hm5
          refine hK.out _ _ ⟨hs4, ?_⟩
          clear hK K hown4 hg4 hat4 hk4 hm5 hr4 hs4 hs5
          try go_frame
          intro q hq
          simp only [pickI, Option.toList_some, List.cons_append, List.nil_append, List.getElem?_toArray, List.getElem?_cons_succ, List.getElem?_cons_zero]
          iterate 2 go_big_quiet_step (fail)
          refine wpQuiet_nil ?_
          clear hq q
          refine seg_op (by simp only [List.getElem?_toArray, List.getElem?_cons_succ, List.getElem?_cons_zero]; rfl) fun K hK => ?_
          go_simp
          refine hK.out _ _ ⟨HS5.out, ?_⟩
          clear hK K
          try go_frame
          intro q hq
          refine wpQuiet_nil ?_
          clear hq q
          have g3 := HS5.out.1
          go_wp2
          go_ret2
          rw [HE.out.1, HE.out.2.1, HE.out.2.2]
          exact ⟨rfl, HFIN.out _ (RMv.pre ((Keeps.of_below HBD.out).trans (Keeps.of_below (F := RFoot g hg (.slice A1 t5.l.length c1)) HB1.out) (fun i hi => .inl hi)) HM5.out)⟩
        · skip
          refine seg_op (by simp only [List.getElem?_toArray, List.getElem?_cons_succ, List.getElem?_cons_zero]; rfl) fun K hK => ?_
          refine ite_ok rfl ?_
          refine wp_bslice _ 1 (.tmp 94) rfl rfl HBS.out ?_
          refine hK.out _ _ ⟨HS1.out, ?_⟩
          clear hK K
          try go_frame
          intro q hq
          refine wpQuiet_nil ?_
          clear hq q
          refine seg_op (by simp only [List.getElem?_toArray, List.getElem?_cons_succ, List.getElem?_cons_zero]; rfl) fun K hK => ?_
          go_simp
          refine hK.out _ _ ⟨HS1.out, ?_⟩
          clear hK K
          try go_frame
          intro q hq
          refine wpQuiet_nil ?_
          clear hq q
          refine seg_op (by simp only [List.getElem?_toArray, List.getElem?_cons_succ, List.getElem?_cons_zero]; rfl) fun K hK => ?_
          rw [if_pos (by rfl)]
          refine wp_app (.tmp 86) (.tmp 95) _ _ rfl E_rwt rfl rfl hW1.out.own HSRC.out (by unfold maxLen; omega) (by omega) (Nat.le_trans HB3B.out (Nat.le_trans HBD.out.size HB1.out.size)) ?_
          intro v4 w4 hown4 hg4 hat4
          obtain ⟨A4, c4, rfl⟩ := ownsRow_form hown4
          have hk4 : Keeps (fun j => (Value.slice A1 t5.l.length c1).ownBlock = some j) w1 w4 := (Keeps.refl _ _).grown hg4 (fun q hq => .inl hq)
          have hm5 := hW1.out.waits (l2 := t5.l ++ [⟨c, r, 0, f, k, R⟩]) hk4 (by rw [List.length_append, wts_app, wts_one1]; exact hown4) (hat4.imp id (fun e q hq => by rw [e] at hq; cases hq; exact Nat.le_refl _)) (by rw [List.length_append]; exact HLEN.out) HIX.out
          have hr4 := hk4.row hW1.out.row hW1.out.vg
          have f0 : w4.frozen? ⟨g, 2, none⟩ = false := frozen_of_row w4 g 2 _ _ hr4
          have d0 : w4.cell? ⟨g, 2, none⟩ = some (.slice A1 t5.l.length c1) := (keeps_cell hk4 hW1.out.c2 hW1.out.vg)
          have hs4 : Reads3 g w.heap.size R f k w4 := HS1.out.keeps hk4 hW1.out.vg (hnf2.out _ (Nat.le_refl _) (Nat.le_refl _))
          have hs5 : Reads3 g w.heap.size R f k (w4.setCell ⟨g, 2, none⟩ (.slice A4 (t5.l.length + 1) c4)) := ⟨by
            rw [cell_of_row _ g 3 _ _ _ (by rw [heap_setCell_same w4 g 2 _ _ _ hr4]), List.setIfInBounds_toArray]
            have := hs4.1
            rw [cell_of_row w4 g 3 _ _ _ hr4] at this
            exact this, keeps_cell (Keeps.set w4 g 2 _) hs4.2.1 (fun e => HGP.out e.symm), keeps_cell (Keeps.set w4 g 2 _) hs4.2.2 (fun e => HGP.out e.symm)⟩
          have HS5 := Lib.hid hs5
          have HM5 := Lib.hid hm5
          refine hK.out _ _ ⟨hs4, ?_⟩
          clear hK K hown4 hg4 hat4 hk4 hm5 hr4 hs4 hs5
          try go_frame
          intro q hq
          simp only [pickI, Option.toList_some, List.cons_append, List.nil_append, List.getElem?_toArray, List.getElem?_cons_succ, List.getElem?_cons_zero]
          iterate 2 go_big_quiet_step (fail)
          refine wpQuiet_nil ?_
          clear hq q
          refine seg_op (by simp only [List.getElem?_toArray, List.getElem?_cons_succ, List.getElem?_cons_zero]; rfl) fun K hK => ?_
          go_simp
          refine hK.out _ _ ⟨HS5.out, ?_⟩
          clear hK K
          try go_frame
          intro q hq
          refine wpQuiet_nil ?_
          clear hq q
          have g3 := HS5.out.1
          go_wp2
          go_ret2
          rw [HE.out.1, HE.out.2.1, HE.out.2.2]
          exact ⟨rfl, HFIN.out _ (RMv.pre ((Keeps.of_below HBD.out).trans (Keeps.of_below (F := RFoot g hg (.slice A1 t5.l.length c1)) HB1.out) (fun i hi => .inl hi)) HM5.out)⟩
end Go.Proofs.Ytkcpldkdnnhmmaa
