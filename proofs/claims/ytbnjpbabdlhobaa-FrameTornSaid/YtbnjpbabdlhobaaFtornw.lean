/- FrameTorn, the law: the walk. -/
import Derived.Test.YtbnjpbabdlhobaaFtornl
import Derived.Test.YtbnjpbabdlhobaaFlives
import Derived.Test.YtbnjpbabdlhobaaRowkit
namespace Go.Proofs.Ytbnjpbabdlhobaa
open Go.RowKit


def mkOf (O : Nat) (l : List UInt8) : List UInt8 := if O = 0 then [] else makeOf O l
theorem mkOf_len (O : Nat) (l : List UInt8) (h : l.length ≤ 1000) : (mkOf O l).length ≤ 2000 := by
  unfold mkOf
  split
  · simp
  · rw [makeOf_len _ _ (by omega), sectorsOf_at _ (by omega)]; omega
theorem make_any (o : Nat) (A : Option Addr) (n c : Nat) (l : List UInt8) (w : World) (h : Rd w w.heap.size 1 A n c (u8s l)) (hn : n ≤ 65536) (ho : o < 18446744073709551616) :
    Calls Try.prog 8 #[.int .u64 (o : Int), .slice A n c] w fun e w' => ∃ v, e = .returned (.tuple #[v, .int .i64 (if o = 0 then 2 else 0)]) ∧ w'.ownsRow w.heap.size 5 1 v (mkOf o l).length (u8s (mkOf o l)) ∧ Below w.heap.size w w' := by
  have hln : l.length = n := by have := h.len; rwa [u8s_len] at this
  by_cases h0 : o = 0
  · subst h0
    refine (make_zero A n c w).mono ?_
    rintro e w' ⟨rfl, rfl⟩
    exact ⟨_, rfl, World.ownsRow_nil _ _ _ _, Below.refl _ _⟩
  · refine (make_good o A n c l w h hn (by omega) ho).mono ?_
    rintro e w' ⟨v, rfl, hown, hb⟩
    refine ⟨v, by rw [if_neg h0], ?_, hb⟩
    rw [mkOf, if_neg h0, makeOf_len _ _ (by omega)]
    exact hown
theorem made_u8 (M : Nat) : (madeCells (Value.int .u8 0).cells (M * 1)).toList = u8s (List.replicate M 0) := by
  rw [Nat.mul_one]
  refine (toList_madeCells_one (Value.int .u8 0) M).trans ?_
  simp [u8s]
  exact .inr rfl
/-- how many bytes of a sector are kept. -/
def nsOf (zs : List Int) (i : Nat) : Nat := (min (max (zs.getD i 0) 0) 64).toNat
theorem nsOf_le (zs : List Int) (i : Nat) : nsOf zs i ≤ 64 := by unfold nsOf; omega

set_option maxRecDepth 20000 in
theorem frameTorn_good (o m : Nat) (A A2 A3 : Option Addr) (n c n2 c2 n3 c3 : Nat) (l l2 : List UInt8) (zs : List Int) (w : World) (h : Rd w w.heap.size 1 A n c (u8s l)) (h2 : Rd w w.heap.size 1 A2 n2 c2 (u8s l2)) (h3 : Rd w w.heap.size 1 A3 n3 c3 (zs.map (Value.int .i64))) (hzs : ∀ z ∈ zs, (Lit.int .i64 z).wf = true) (hm : m < 18446744073709551616) (hom : o < m) (hn : n ≤ 1000) (hn2 : n2 ≤ 1000) (hn3 : n3 ≤ 100) :
    Calls Try.prog 6 #[.int .u64 (o : Int), .int .u64 (m : Int), .slice A n c, .slice A2 n2 c2, .slice A3 n3 c3] w fun e w' => e = .returned (.bool true) ∧ Below w.heap.size w w' := by
  have hln : l.length = n := by have := h.len; rwa [u8s_len] at this
  have hln2 : l2.length = n2 := by have := h2.len; rwa [u8s_len] at this
  have hM1 := make_any o A n c l w h (by omega) (by omega)
  have hM2 := fun (w1 : World) (hb : Below w.heap.size w w1) => make_good m A2 n2 c2 l2 w1 ((h2.below hb).more hb.size) (by omega) (by omega) hm
  obtain ⟨k, hk⟩ : ∃ k, k = sectorsOf (l2.length : Int) := ⟨_, rfl⟩
  rw [← hk] at hM2
  have hk1 : k ≤ 30 := by rw [hk, sectorsOf_at _ (by omega)]; omega
  obtain ⟨q, hq⟩ : ∃ q, q = (mkOf o l).length := ⟨_, rfl⟩
  have hq1 : q ≤ 2000 := by rw [hq]; exact mkOf_len o l (by omega)
  rw [← hq] at hM1
  obtain ⟨M, hMq⟩ : ∃ M, M = max q (64 * k) := ⟨_, rfl⟩
  obtain ⟨eo, heo⟩ : ∃ eo : Int, eo = (if o = 0 then 2 else 0) := ⟨_, rfl⟩
  rw [← heo] at hM1
  obtain ⟨bo, hbo⟩ : ∃ bo : Bool, bo = ((o : Int) == 0) := ⟨_, rfl⟩
  have qo : ((o : Int) == 0) = bo := hbo.symm
  have qe : (eo != 0) = bo := by
    rw [heo, hbo]
    by_cases h0 : o = 0
    · subst h0; rfl
    · rw [if_neg h0]
      have : ((o : Int) == 0) = false := by simp; omega
      rw [this]; rfl
  have d1 : decide (1000 < n) = false := by simp; omega
  have d2 : decide (1000 < n2) = false := by simp; omega
  have d3 : decide ((m : Int) ≤ (o : Int)) = false := by simp; omega
  have d4 : decide (100 < n3) = false := by simp; omega
  have hmax : max (q : Int) (64 * (k : Int)) = (M : Int) := by omega
  have hmif : (if (q : Int) < 64 * (k : Int) then 64 * (k : Int) else (q : Int)) = (M : Int) := by split <;> omega
  have hM1k : M ≤ 2000 := by omega
  have HM1 := Lib.hid hM1
  have HM2 := Lib.hid hM2
  have HMQ := Lib.hid hMq
  have HK := Lib.hid hk
  have HQ := Lib.hid hq
  have HO := Lib.hid hom
  have HEO := Lib.hid heo
  have HBO := Lib.hid hbo
  clear hM1 hM2 hMq hk hq hom heo hbo
  go_enter Try.func6, Try.ntmps6
  go_wp2_with (first
    | (go_at_call 8; have hx := hb1; refine (HM2.out _ hb1).mono ?_; rintro e w2 ⟨v2, rfl, hown2, hb2⟩; obtain ⟨A5, c5, rfl⟩ := ownsRow_form hown2; have hb02 := hb1.trans (hb2.mono hb1.size); have hr2 := ownsRow_rd hown2)
    | (go_at_call 8; refine (HM1.out).mono ?_; rintro e w1 ⟨v1, rfl, hown1, hb1⟩; obtain ⟨A4, c4, rfl⟩ := ownsRow_form hown1; have hr1 := ownsRow_rd hown1)
    | (at_make; refine wpL_make rfl _ _ _ rfl (base := w2.heap.size) E_u8 M rfl rfl (by omega) (by omega) (by omega) (by unfold maxLen; omega) (Nat.le_refl _) ?_; intro w3 hown3 hg3
       have hb3 := Below.grown (Below.refl w2.heap.size w2) hg3 (Nat.le_refl _) (fun k hk => by cases hk)
       have hr13 := hr1.below (hb2.trans (hb3.mono hb2.size)))
    | (have hx3 := hown3; refine wpL_cp (o := ⟨some 69, _, _, _, _, _⟩) (y := .slice A4 q c4) (m := q) rfl (.tmp 67) (.tmp 68) 23 23 rfl E_u8 rfl rfl hown3 (hr13.src Try.underlying23 (u8s_one _)) (by omega) ?_; intro w4 hown4 hg4
       have hb4 := hb3.grown hg4 hb3.size (fun k hk => (hown3.lt k hk).1)
       rw [made_u8, Nat.mul_one, ← u8s_drop, ← u8s_app, List.drop_replicate] at hown4)
    | fail)
  clear hown3 hx3 hr13 hb3 hg3 hg4
  have hW : wasL o l M = mkOf o l ++ List.replicate (M - q) 0 := by rw [HQ.out]; rfl
  rw [← hW] at hown4
  have HW := Lib.hid hW
  clear hW
  have hT := torn_read _ m o l2 l (by omega) (by omega) hm HO.out (torn_is m o l2 l (nsOf zs) M (by omega) (by omega) (nsOf_le zs) (by rw [HMQ.out, HQ.out, makeOf_len m l2 (by omega), ← HK.out]; rfl))
  rw [← HK.out] at hT
  have HT := Lib.hid hT
  clear hT
  generalize wasL o l M = L0 at *
  generalize makeOf m l2 = B at *
  go_loopw [73] (fun ir wr => ∃ i : Nat, i ≤ k ∧ ir = .int .i64 (i : Int) ∧ wr.ownsRow w2.heap.size 5 1 (.slice (some ⟨w2.heap.size, 0, none⟩) M M) M (u8s (tornL L0 B (nsOf zs) i)) ∧ Below w2.heap.size w2 wr) (fun ir _ => k - (intOf ir).toNat)
  case atStart => exact ⟨0, Nat.zero_le _, rfl, hown4, hb4⟩
  case round =>
    obtain ⟨i, hi, rfl, hownr, hbr⟩ := hrel
    by_cases hik : i < k
    · by_cases hin : i < n3
      · obtain ⟨b3, o3, u, rfl, hb3, hu, hcell⟩ := (h3.below (hb02.trans (hbr.mono hb02.size))).at_ hin
        obtain ⟨z, hz, rfl⟩ : ∃ z, zs[i]? = some z ∧ u = .int .i64 z := by
          rw [List.getElem?_map] at hu
          cases hz : zs[i]? with
          | none => rw [hz] at hu; cases hu
          | some z => rw [hz] at hu; cases hu; exact ⟨z, rfl, rfl⟩
        obtain ⟨x, hx⟩ : ∃ x : Nat, (x : Int) = max z 0 := ⟨z.toNat, by omega⟩
        obtain ⟨nv, hnv0⟩ : ∃ nv, nv = min x 64 := ⟨_, rfl⟩
        have hnv : nsOf zs i = nv := by
          rw [nsOf, List.getD_eq_getElem?_getD, hz]
          show (min (max z 0) 64).toNat = nv
          omega
        have f1 : max z 0 = (x : Int) := hx.symm
        have f2 : (if z < 0 then 0 else z) = (x : Int) := by split <;> omega
        have f3 : min (x : Int) 64 = (nv : Int) := by omega
        have f4 : (if 64 < (x : Int) then 64 else (x : Int)) = (nv : Int) := by split <;> omega
        have hiM : 64 * (i : Int) ≤ (M : Int) := by omega
        have hi0 : (0 : Int) ≤ 64 * (i : Int) := by omega
        have hnv1 : (nv : Int) ≤ 64 := by omega
        have hc5 : 64 * (i : Int) + (nv : Int) ≤ (c5 : Int) := by have := hr2.1; omega
        clear hx hz hu
        go_wp2_with (fail)
        refine wp_low (w2.heap.size) [([0, 1, 2, 3, 4, 5, 6, 7, 8, 9, 10, 11], 12)] [] (by kernel_rfl) (by kernel_rfl) (fun d _ _ _ _ h => by cases d <;> exact h) hbr.size fun wd hbd => ?_
        intro f hf
        simp only [pickI, Option.toList_some, List.cons_append, List.nil_append, List.getElem?_toArray, List.getElem?_cons_succ, List.getElem?_cons_zero]
        repeat (go_big_quiet_step (fail))
        refine wpQuiet_nil ?_
        clear hf f
        refine seg_op (by simp only [List.getElem?_toArray, List.getElem?_cons_succ, List.getElem?_cons_zero]; rfl) fun K hK => ?_
        go_simp
        have hb25 : Below w2.heap.size w2 wd := hbr.trans (hbd.mono hbr.size)
        have hcut := ((hr2.cut (k := 64 * i) (m := nv) (by omega)).below hb25)
        rw [← u8s_drop, ← u8s_take] at hcut
        obtain ⟨wn, hrun, hown', hg'⟩ := run_cp_at (ty := 3) (M := M) (o := 64 * i) (k := nv) E_u8 (ownsRow_below hownr hbd) (hcut.src Try.underlying23 (u8s_one _)) (by omega)
        rw [if_neg (by have := hr2.1; omega), show min x 64 = nv from hnv0.symm, hrun]
        have hown6 : wn.ownsRow w2.heap.size 5 1 (.slice (some ⟨w2.heap.size, 0, none⟩) M M) M (u8s (tornL L0 B (nsOf zs) (i + 1))) := by
          rw [tornL, splice, hnv, u8s_app, u8s_app, u8s_take, u8s_drop]
          exact hown'
        have hbn : Below w2.heap.size wr wn := (hbd.mono hbr.size).grown hg' (by have := hbd.size; have := hbr.size; omega) (fun k hk => by cases hk; exact Nat.le_refl _)
        have hbn2 := hbr.trans hbn
        go_simp
        refine hK.out _ _ (seg_keep hbn ?_)
        clear hK K
        intro g hg
        refine wpQuiet_nil ?_
        clear hg g
        go_wp2_with (fail)
        go_roundw
        case rel => exact ⟨i + 1, by omega, by go_num, hown6, hbn2⟩
        case measure => simp [intOf]; omega
      · have hnv : nsOf zs i = 0 := by
          have hz : zs.length = n3 := by have := h3.len; rwa [List.length_map] at this
          rw [nsOf, List.getD_eq_getElem?_getD, List.getElem?_eq_none (by omega)]
          rfl
        have hiM : 64 * (i : Int) ≤ (M : Int) := by omega
        have hi0 : (0 : Int) ≤ 64 * (i : Int) := by omega
        have hc5 : 64 * (i : Int) ≤ (c5 : Int) := by have := hr2.1; omega
        go_wp2_with (fail)
        refine wp_low (w2.heap.size) [([0, 1, 2, 3, 4, 5, 6, 7, 8, 9, 10, 11], 12)] [] (by kernel_rfl) (by kernel_rfl) (fun d _ _ _ _ h => by cases d <;> exact h) hbr.size fun wd hbd => ?_
        intro f hf
        simp only [pickI, Option.toList_some, List.cons_append, List.nil_append, List.getElem?_toArray, List.getElem?_cons_succ, List.getElem?_cons_zero]
        repeat (go_big_quiet_step (fail))
        refine wpQuiet_nil ?_
        clear hf f
        refine seg_op (by simp only [List.getElem?_toArray, List.getElem?_cons_succ, List.getElem?_cons_zero]; rfl) fun K hK => ?_
        go_simp
        have hb25 : Below w2.heap.size w2 wd := hbr.trans (hbd.mono hbr.size)
        have hcut := ((hr2.cut (k := 64 * i) (m := 0) (by omega)).below hb25)
        rw [← u8s_drop, ← u8s_take] at hcut
        obtain ⟨wn, hrun, hown', hg'⟩ := run_cp_at (ty := 3) (M := M) (o := 64 * i) (k := 0) E_u8 (ownsRow_below hownr hbd) (hcut.src Try.underlying23 (u8s_one _)) (by omega)
        rw [if_neg (by have := hr2.1; omega), hrun]
        have hown6 : wn.ownsRow w2.heap.size 5 1 (.slice (some ⟨w2.heap.size, 0, none⟩) M M) M (u8s (tornL L0 B (nsOf zs) (i + 1))) := by
          rw [tornL, splice, hnv, u8s_app, u8s_app, u8s_take, u8s_drop]
          exact hown'
        have hbn : Below w2.heap.size wr wn := (hbd.mono hbr.size).grown hg' (by have := hbd.size; have := hbr.size; omega) (fun k hk => by cases hk; exact Nat.le_refl _)
        have hbn2 := hbr.trans hbn
        go_simp
        refine hK.out _ _ (seg_keep hbn ?_)
        clear hK K
        intro g hg
        refine wpQuiet_nil ?_
        clear hg g
        go_wp2_with (fail)
        go_roundw
        case rel => exact ⟨i + 1, by omega, by go_num, hown6, hbn2⟩
        case measure => simp [intOf]; omega
    · obtain rfl : i = k := by omega
      have hb0r := hb02.trans (hbr.mono hb02.size)
      have hR := read_frame _ M M _ wr (ownsRow_rd hownr) (by omega)
      have hom := HO.out
      clear hik hi qo qe
      rcases HT.out with e | ⟨h0, e⟩ | e | ⟨h0, e⟩
      · rw [e] at hR
        have HR := Lib.hid hR
        have qt : ((str l2).toList == (str l2).toList) = true := beq_self_eq_true _
        clear hR e hom
        go_wp2_with (first
        | (go_at_call 12; refine (HR.out).mono ?_; rintro e w7 ⟨A7, n7, c7, rfl, hn7, hr7, hb7⟩; dsimp only at hn7 hr7; subst hn7; rw [hln2] at hr7
           have hb07 := hb0r.trans (hb7.mono hb0r.size)
           have F1 := run_str (P := Try.prog) Try.underlying23 Try.underlying5 Try.underlying9 hr7
           have F2 := run_str (P := Try.prog) Try.underlying23 Try.underlying5 Try.underlying9 (h2.below hb07))
        | (go_at_call 7; refine (flives _).mono ?_; rintro e w8 ⟨rfl, hb8⟩)
        | fail)
        go_ret
        exact ⟨rfl, hb07.trans (hb8.mono hb07.size)⟩
      · rw [e] at hR
        have HR := Lib.hid hR
        have qt : ((str l).toList == (str l).toList) = true := beq_self_eq_true _
        have qom : ((o : Int) == (m : Int)) = false := by simp; omega
        clear hR e hom h0
        go_wp2_with (first
        | (go_at_call 12; refine (HR.out).mono ?_; rintro e w7 ⟨A7, n7, c7, rfl, hn7, hr7, hb7⟩; dsimp only at hn7 hr7; subst hn7; rw [hln] at hr7
           have hb07 := hb0r.trans (hb7.mono hb0r.size)
           have F1 := run_str (P := Try.prog) Try.underlying23 Try.underlying5 Try.underlying9 hr7
           have F2 := run_str (P := Try.prog) Try.underlying23 Try.underlying5 Try.underlying9 (h.below hb07))
        | (go_at_call 7; refine (flives _).mono ?_; rintro e w8 ⟨rfl, hb8⟩)
        | fail)
        go_ret
        exact ⟨rfl, hb07.trans (hb8.mono hb07.size)⟩
      · rw [e] at hR
        have HR := Lib.hid hR
        clear hR e hom
        go_wp2_with (first
        | (go_at_call 12; refine (HR.out).mono ?_; rintro e w7 ⟨A7, n7, c7, rfl, hn7, hr7, hb7⟩; dsimp only at hn7 hr7; subst hn7
           have hb07 := hb0r.trans (hb7.mono hb0r.size)
           have F1 := run_str (P := Try.prog) Try.underlying23 Try.underlying5 Try.underlying9 hr7
           have F2 := run_str (P := Try.prog) Try.underlying23 Try.underlying5 Try.underlying9 (h.below hb07))
        | (go_at_call 7; refine (flives _).mono ?_; rintro e w8 ⟨rfl, hb8⟩)
        | fail)
        go_ret
        exact ⟨rfl, hb07.trans (hb8.mono hb07.size)⟩
      · rw [e] at hR
        have HR := Lib.hid hR
        have qo2 : ((o : Int) == 0) = true := by rw [h0]; rfl
        clear hR e hom h0
        go_wp2_with (first
        | (go_at_call 12; refine (HR.out).mono ?_; rintro e w7 ⟨A7, n7, c7, rfl, hn7, hr7, hb7⟩; dsimp only at hn7 hr7; subst hn7
           have hb07 := hb0r.trans (hb7.mono hb0r.size)
           have F1 := run_str (P := Try.prog) Try.underlying23 Try.underlying5 Try.underlying9 hr7
           have F2 := run_str (P := Try.prog) Try.underlying23 Try.underlying5 Try.underlying9 (h.below hb07))
        | (go_at_call 7; refine (flives _).mono ?_; rintro e w8 ⟨rfl, hb8⟩)
        | fail)
        go_ret
        exact ⟨rfl, hb07.trans (hb8.mono hb07.size)⟩

end Go.Proofs.Ytbnjpbabdlhobaa
