/- FrameBack: what is framed is read as it was, whatever stands behind, and what is read of any bytes, framed, is their beginning: the law answers true for every number and all bytes. -/
import Derived.Test.YtbnjpbabdlhobaaFback
import Derived.Test.YtbnjpbabdlhobaaRowkit
namespace Go.Proofs.Ytbnjpbabdlhobaa
open Go.RowKit

theorem frameBack_early (m : Nat) (A A2 : Option Addr) (n c n2 c2 : Nat) (w : World) (hbig : 3000 < n ∨ 3000 < n2 ∨ m = 0) :
    Calls Try.prog 5 #[.int .u64 (m : Int), .slice A n c, .slice A2 n2 c2] w fun e w' => e = .returned (.bool true) ∧ Below w.heap.size w w' := by
  by_cases h1 : 3000 < n
  · have d1 : decide (3000 < n) = true := by simpa using h1
    have h1i : (3000 : Int) < (n : Int) := by omega
    clear hbig h1
    go_enter Try.func5, Try.ntmps5
    go_wp2_with (go_at_call 7; refine (flives _).mono ?_; rintro e w6 ⟨rfl, hb6⟩)
    go_ret
    exact ⟨rfl, hb6⟩
  · have d1 : decide (3000 < n) = false := by simpa using h1
    by_cases h2 : 3000 < n2
    · have d2 : decide (3000 < n2) = true := by simpa using h2
      have h2i : (3000 : Int) < (n2 : Int) := by omega
      have h1i : (n : Int) ≤ 3000 := by omega
      clear hbig h1 h2
      go_enter Try.func5, Try.ntmps5
      go_wp2_with (go_at_call 7; refine (flives _).mono ?_; rintro e w6 ⟨rfl, hb6⟩)
      go_ret
      exact ⟨rfl, hb6⟩
    · have d2 : decide (3000 < n2) = false := by simpa using h2
      obtain rfl : m = 0 := by omega
      have h2i : (n2 : Int) ≤ 3000 := by omega
      have h1i : (n : Int) ≤ 3000 := by omega
      clear hbig h1 h2
      go_enter Try.func5, Try.ntmps5
      go_wp2_with (go_at_call 7; refine (flives _).mono ?_; rintro e w6 ⟨rfl, hb6⟩)
      go_ret
      exact ⟨rfl, hb6⟩

set_option maxHeartbeats 4000000 in
set_option maxRecDepth 8000 in
theorem frameBack_bad (m : Nat) (A A2 : Option Addr) (n c n2 c2 : Nat) (l l2 : List UInt8) (w : World) (h : Rd w w.heap.size 1 A n c (u8s l)) (h2 : Rd w w.heap.size 1 A2 n2 c2 (u8s l2)) (hm0 : 0 < m) (hm : m < 18446744073709551616) (hn : n ≤ 3000) (hn2 : n2 ≤ 3000) (hbad : (readOf l2).2.2 ≠ 0) :
    Calls Try.prog 5 #[.int .u64 (m : Int), .slice A n c, .slice A2 n2 c2] w fun e w' => e = .returned (.bool true) ∧ Below w.heap.size w w' := by
  have hln : l.length = n := by have := h.len; rwa [u8s_len] at this
  subst hln
  have hM := make_good m A l.length c l w h (by omega) hm0 hm
  obtain ⟨q, hq⟩ : ∃ q, q = 64 * sectorsOf (l.length : Int) := ⟨_, rfl⟩
  have hq1 : q ≤ 10000 := by rw [hq, sectorsOf_at _ (by omega)]; omega
  rw [← hq] at hM
  have hR1 := fun (A3 : Option Addr) (c3 : Nat) (w3 : World) (hr : Rd w3 w3.heap.size 1 A3 (q + n2) c3 (u8s (makeOf m l ++ l2))) => read_frame A3 (q + n2) c3 _ w3 hr (by omega)
  rw [read_make m l l2 (by omega) hm hm0] at hR1
  have hS := fun w => sectors_any (l.length : Int) w (by simp [Lit.wf, IntKind.min, IntKind.max, IntKind.signed, IntKind.bits]; omega)
  obtain ⟨k, hk⟩ : ∃ k, k = sectorsOf (l.length : Int) := ⟨_, rfl⟩
  rw [← hk] at hS hq
  have hR2 := fun (w4 : World) (hb : Below w.heap.size w w4) => read_frame A2 n2 c2 l2 w4 ((h2.below hb).more hb.size) (by omega)
  have HM := Lib.hid hM
  have HR1 := Lib.hid hR1
  have HS := Lib.hid hS
  have d1 : decide (3000 < l.length) = false := by simp; omega
  have d2 : decide (3000 < n2) = false := by simp; omega
  have q0 : ((m : Int) == 0) = false := by simp; omega
  have qm : ((m : Int) != (m : Int)) = false := bne_self_eq_false _
  have qt : ((str l).toList == (str l).toList) = true := beq_self_eq_true _
  have hk1 : (k : Int) ≤ 1000 := by omega
  have hqk : (q : Int) = 64 * (k : Int) := by omega
  have qq : ((q : Int) != 64 * (k : Int)) = false := by rw [hqk]; exact bne_self_eq_false _
  obtain ⟨b1, b2⟩ := read_bad l2 hbad
  generalize readOf l2 = r at *
  obtain ⟨r1, r2, E⟩ := r
  dsimp only at b1 b2 hbad hR2
  subst b1
  subst b2
  have qE : (E != 0) = true := by simpa using hbad
  have HR2 := Lib.hid hR2
  have HQ := Lib.hid hqk
  clear hM hR1 hS hR2 hq hk hm0 hm hbad hqk
  go_enter Try.func5, Try.ntmps5
  go_wp2_with (first
    | (go_at_call 8; refine (HM.out).mono ?_; rintro e w1 ⟨v1, rfl, hown1, hb1⟩; obtain ⟨A1, c1, rfl⟩ := ownsRow_form hown1; have hr1 := ownsRow_rd hown1)
    | (at_builtin; first
        | (have hx2 := hown2; refine wpL_app (m := n2) (y := .slice A2 n2 c2) rfl (.tmp 39) (.tmp 40) _ _ rfl E_u8 rfl rfl hown2 (((h2.below hb02)).src Try.underlying23 (u8s_one _)) (by unfold maxLen; omega) (by omega) hb12.size ?_; intro v3 w3 hown3 hg3 hat3
           have hb13 := hb12.grown hg3 hb12.size (fun j e => (hown2.lt j e).1)
           have hb03 := hb1.trans (hb13.mono hb1.size)
           obtain ⟨A3, c3, rfl⟩ := ownsRow_form hown3
           have hr3 := ownsRow_rd hown3
           rw [← u8s_app] at hr3)
        | (refine wpL_app (m := q) (y := .slice A1 q c1) rfl (.tmp 37) (.tmp 38) _ _ rfl E_u8 rfl rfl (World.ownsRow_lit (base := w1.heap.size) w1 #[] 0 (Nat.le_refl _) (Nat.zero_le _) rfl) ((hr1.below ((Below.refl _ _).alloc (Nat.le_refl _) _)).src Try.underlying23 (u8s_one _)) (by unfold maxLen; omega) (by omega) (by simp) ?_; intro v2 w2 hown2 hg2 hat2
           have hb12 : Below w1.heap.size w1 w2 := ((Below.refl _ _).alloc (Nat.le_refl _) _).grown hg2 (by simp) (fun j e => by obtain rfl : w1.heap.size = j := Option.some.inj e; exact Nat.le_refl _)
           have hb02 := hb1.trans (hb12.mono hb1.size)
           rw [Nat.zero_add, Array.toList_empty, List.nil_append] at hown2))
    | (go_at_call 12; first
        | (have hx4 := hb04; refine (HR2.out _ hb04).mono ?_; rintro e w5 ⟨A5, n5, c5, rfl, hn5, hr5, hb5⟩; subst hn5; have hb05 := hb04.trans (hb5.mono hb04.size))
        | (refine (HR1.out _ _ _ hr3).mono ?_; rintro e w4 ⟨A4, n4, c4, rfl, hn4, hr4, hb4⟩; subst hn4
           have hb04 := hb03.trans (hb4.mono hb03.size)
           have F4 := run_str (P := Try.prog) Try.underlying23 Try.underlying5 Try.underlying9 hr4
           have F5 := run_str (P := Try.prog) Try.underlying23 Try.underlying5 Try.underlying9 (h.below hb04)))
    | (go_at_call 10; refine (HS.out _).mono ?_; rintro e w0 ⟨rfl, rfl⟩)
    | (go_at_call 7; refine (flives _).mono ?_; rintro e w6 ⟨rfl, hb6⟩)
    | fail)
  go_ret
  exact ⟨rfl, hb05.trans (hb6.mono hb05.size)⟩

set_option maxHeartbeats 4000000 in
set_option maxRecDepth 8000 in
theorem frameBack_good (m : Nat) (A A2 : Option Addr) (n c n2 c2 : Nat) (l l2 : List UInt8) (w : World) (h : Rd w w.heap.size 1 A n c (u8s l)) (h2 : Rd w w.heap.size 1 A2 n2 c2 (u8s l2)) (hm0 : 0 < m) (hm : m < 18446744073709551616) (hn : n ≤ 3000) (hn2 : n2 ≤ 3000) (hgood : (readOf l2).2.2 = 0) :
    Calls Try.prog 5 #[.int .u64 (m : Int), .slice A n c, .slice A2 n2 c2] w fun e w' => e = .returned (.bool true) ∧ Below w.heap.size w w' := by
  have hln : l.length = n := by have := h.len; rwa [u8s_len] at this
  subst hln
  have hM := make_good m A l.length c l w h (by omega) hm0 hm
  obtain ⟨q, hq⟩ : ∃ q, q = 64 * sectorsOf (l.length : Int) := ⟨_, rfl⟩
  have hq1 : q ≤ 10000 := by rw [hq, sectorsOf_at _ (by omega)]; omega
  rw [← hq] at hM
  have hR1 := fun (A3 : Option Addr) (c3 : Nat) (w3 : World) (hr : Rd w3 w3.heap.size 1 A3 (q + n2) c3 (u8s (makeOf m l ++ l2))) => read_frame A3 (q + n2) c3 _ w3 hr (by omega)
  rw [read_make m l l2 (by omega) hm hm0] at hR1
  have hS := fun w => sectors_any (l.length : Int) w (by simp [Lit.wf, IntKind.min, IntKind.max, IntKind.signed, IntKind.bits]; omega)
  obtain ⟨k, hk⟩ : ∃ k, k = sectorsOf (l.length : Int) := ⟨_, rfl⟩
  rw [← hk] at hS hq
  have hR2 := fun (w4 : World) (hb : Below w.heap.size w w4) => read_frame A2 n2 c2 l2 w4 ((h2.below hb).more hb.size) (by omega)
  have HM := Lib.hid hM
  have HR1 := Lib.hid hR1
  have HS := Lib.hid hS
  have d1 : decide (3000 < l.length) = false := by simp; omega
  have d2 : decide (3000 < n2) = false := by simp; omega
  have q0 : ((m : Int) == 0) = false := by simp; omega
  have qm : ((m : Int) != (m : Int)) = false := bne_self_eq_false _
  have qt : ((str l).toList == (str l).toList) = true := beq_self_eq_true _
  have hk1 : (k : Int) ≤ 1000 := by omega
  have hqk : (q : Int) = 64 * (k : Int) := by omega
  have qq : ((q : Int) != 64 * (k : Int)) = false := by rw [hqk]; exact bne_self_eq_false _
  have hback := fun (m2 : Nat) (u : List UInt8) (hh : readOf l2 = (m2, u, 0)) => read_back l2 u m2 hh
  have hl2 : l2.length = n2 := by have := h2.len; rwa [u8s_len] at this
  generalize readOf l2 = r at *
  obtain ⟨m2, u, E⟩ := r
  dsimp only at hgood hR2
  subst hgood
  obtain ⟨k0, k1, k2, k3, k4⟩ := hback m2 u rfl
  have hM2 := fun (w5 : World) (A5 : Option Addr) (c5 : Nat) (hr : Rd w5 w5.heap.size 1 A5 u.length c5 (u8s u)) => make_good m2 A5 u.length c5 u w5 hr k2 k0 k1
  obtain ⟨p, hp⟩ : ∃ p, p = 64 * sectorsOf (u.length : Int) := ⟨_, rfl⟩
  rw [← hp] at hM2 k3 k4
  rw [k4] at hM2
  rw [hl2] at k3
  have hp1 : (p : Int) ≤ (n2 : Int) := by omega
  have hpc := h2.pre (k := p) k3
  rw [← u8s_take] at hpc
  have hc2 := h2.1
  have hmin : min (p : Int) (n2 : Int) = (p : Int) := by omega
  have hmif : (if (n2 : Int) < (p : Int) then (n2 : Int) else (p : Int)) = (p : Int) := by rw [if_neg (by omega)]
  have hpc2 : (p : Int) ≤ (c2 : Int) := by omega
  obtain ⟨t2, ht2⟩ : ∃ t2, t2 = l2.take p := ⟨_, rfl⟩
  rw [← ht2] at hM2 hpc
  have qt2 : ((str t2).toList == (str t2).toList) = true := beq_self_eq_true _
  have HM2 := Lib.hid hM2
  have HPC := Lib.hid hpc
  have HR2 := Lib.hid hR2
  have HQ := Lib.hid hqk
  clear hM hR1 hS hR2 hq hk hm0 hm hqk hback hl2 k0 k1 k2 k3 k4 hM2 hp hpc ht2
  go_enter Try.func5, Try.ntmps5
  go_wp2_with (first
    | (go_at_call 8; have hx5 := hr5; refine (HM2.out _ _ _ hr5).mono ?_; rintro e w6 ⟨v6, rfl, hown6, hb6⟩; obtain ⟨A6, c6, rfl⟩ := ownsRow_form hown6; have hr6 := ownsRow_rd hown6; have hb06 := hb05.trans (hb6.mono hb05.size))
    | (go_at_call 8; refine (HM.out).mono ?_; rintro e w1 ⟨v1, rfl, hown1, hb1⟩; obtain ⟨A1, c1, rfl⟩ := ownsRow_form hown1; have hr1 := ownsRow_rd hown1)
    | (at_builtin; first
        | (have hx2 := hown2; refine wpL_app (m := n2) (y := .slice A2 n2 c2) rfl (.tmp 39) (.tmp 40) _ _ rfl E_u8 rfl rfl hown2 (((h2.below hb02)).src Try.underlying23 (u8s_one _)) (by unfold maxLen; omega) (by omega) hb12.size ?_; intro v3 w3 hown3 hg3 hat3
           have hb13 := hb12.grown hg3 hb12.size (fun j e => (hown2.lt j e).1)
           have hb03 := hb1.trans (hb13.mono hb1.size)
           obtain ⟨A3, c3, rfl⟩ := ownsRow_form hown3
           have hr3 := ownsRow_rd hown3
           rw [← u8s_app] at hr3)
        | (refine wpL_app (m := q) (y := .slice A1 q c1) rfl (.tmp 37) (.tmp 38) _ _ rfl E_u8 rfl rfl (World.ownsRow_lit (base := w1.heap.size) w1 #[] 0 (Nat.le_refl _) (Nat.zero_le _) rfl) ((hr1.below ((Below.refl _ _).alloc (Nat.le_refl _) _)).src Try.underlying23 (u8s_one _)) (by unfold maxLen; omega) (by omega) (by simp) ?_; intro v2 w2 hown2 hg2 hat2
           have hb12 : Below w1.heap.size w1 w2 := ((Below.refl _ _).alloc (Nat.le_refl _) _).grown hg2 (by simp) (fun j e => by obtain rfl : w1.heap.size = j := Option.some.inj e; exact Nat.le_refl _)
           have hb02 := hb1.trans (hb12.mono hb1.size)
           rw [Nat.zero_add, Array.toList_empty, List.nil_append] at hown2))
    | (go_at_call 12; first
        | (have hx4 := hb04; refine (HR2.out _ hb04).mono ?_; rintro e w5 ⟨A5, n5, c5, rfl, hn5, hr5, hb5⟩; subst hn5; have hb05 := hb04.trans (hb5.mono hb04.size))
        | (refine (HR1.out _ _ _ hr3).mono ?_; rintro e w4 ⟨A4, n4, c4, rfl, hn4, hr4, hb4⟩; subst hn4
           have hb04 := hb03.trans (hb4.mono hb03.size)
           have F4 := run_str (P := Try.prog) Try.underlying23 Try.underlying5 Try.underlying9 hr4
           have F5 := run_str (P := Try.prog) Try.underlying23 Try.underlying5 Try.underlying9 (h.below hb04)))
    | (go_at_call 10; refine (HS.out _).mono ?_; rintro e w0 ⟨rfl, rfl⟩)
    | fail)
  have hz6 := hb06.size
  refine wp_low (w6.heap.size) [([0, 1, 2, 3, 4, 5, 6, 7, 8, 9, 10, 11, 12, 13, 14, 15, 16, 17, 18, 19, 20, 21, 22], 23)] [24, 25] (by kernel_rfl) (by kernel_rfl) (fun d _ _ _ _ h => by cases d <;> exact h) (Nat.le_refl _) fun wd hbd => ?_
  intro f hf
  have F6 := fun z => run_str (P := Try.prog) Try.underlying23 Try.underlying5 Try.underlying9 (hr6.below (hf z))
  have F7 := fun z => run_str (P := Try.prog) Try.underlying23 Try.underlying5 Try.underlying9 (HPC.out.below (hb06.trans ((hf z).mono hz6)))
  simp only [pickI, Option.toList_some, List.cons_append, List.nil_append, List.getElem?_toArray, List.getElem?_cons_succ, List.getElem?_cons_zero]
  repeat (go_big_quiet_step (fail))
  refine wpQuiet_nil ?_
  clear F6 F7 hf f
  refine seg_op (by simp only [List.getElem?_toArray, List.getElem?_cons_succ, List.getElem?_cons_zero]; rfl) fun K hK => ?_
  go_simp
  refine (flives _).mono ?_
  rintro e w7 ⟨rfl, hb7⟩
  have hb67 : Below w6.heap.size w6 w7 := hbd.trans (hb7.mono hbd.size)
  refine hK.out _ _ (seg_keep hb67 ?_)
  clear hK K
  intro g hg
  simp only [pickI, Option.toList_some, List.cons_append, List.nil_append, List.getElem?_toArray, List.getElem?_cons_succ, List.getElem?_cons_zero]
  repeat (go_big_quiet_step (fail))
  refine wpQuiet_nil ?_
  clear hg g
  go_wp2_with (fail)
  go_ret
  exact ⟨rfl, hb06.trans (hb67.mono hz6)⟩

theorem frameBack_walk {w : World} (x : Int) (hx : (Lit.int .u64 x).wf = true) (A : Option Addr) (n c : Nat) (l : List UInt8) (h : Rd w w.heap.size 1 A n c (u8s l)) (A2 : Option Addr) (n2 c2 : Nat) (l2 : List UInt8) (h2 : Rd w w.heap.size 1 A2 n2 c2 (u8s l2)) :
    Calls Try.prog 5 #[.int .u64 x, .slice A n c, .slice A2 n2 c2] w fun e w' => e = .returned (.bool true) ∧ Below w.heap.size w w' := by
  simp [Lit.wf, IntKind.min, IntKind.max, IntKind.signed, IntKind.bits] at hx
  obtain ⟨m, rfl⟩ := Int.eq_ofNat_of_zero_le hx.1
  by_cases hb : n ≤ 3000 ∧ n2 ≤ 3000 ∧ 0 < m
  · by_cases hg : (readOf l2).2.2 = 0
    · exact frameBack_good m A A2 n c n2 c2 l l2 w h h2 hb.2.2 (by omega) hb.1 hb.2.1 hg
    · exact frameBack_bad m A A2 n c n2 c2 l l2 w h h2 hb.2.2 (by omega) hb.1 hb.2.1 hg
  · exact frameBack_early m A A2 n c n2 c2 w (by omega)

namespace frameBack
open Go.ChangeShapes Go.WideShapes Go.ChangeAt
set_option maxRecDepth 100000 in
theorem lifted (os : Os) (started : os.Started) (H : Type) (enc : TypeId × Value → H) :
    ReturnsInHanded {} Try.checked os 5 .any (Rows.frameBackSpec.pre6 enc Try.prog Try.f5 Rows.frameBackRow.domain false) (Rows.frameBackSpec.post enc Try.prog Try.f5 false true false false) := by
  refine returnsInHanded_of_change (C := Try.checked) own started (by kernel_rfl) Try.func5
    (ChangeSpec.witness6 (enc := enc) (C := Try.checked) false ⟨#[], #[.int .u64 0, .slice none 0 0, .slice none 0 0], []⟩ 8 (by kernel_rfl) (by kernel_rfl) (by kernel_rfl) (by kernel_rfl)) ?_
  intro W base args ds gs before hval0 hW _ _
  have hval : ∀ (j : Nat) t v, Try.f5.params[j]? = some t → args[j]? = some v → Value.okWide Try.prog W .any base t v := hval0
  have hW' := hW
  obtain ⟨p, q, hA0, hV, rfl, hfz, hnd⟩ := hW
  have hA : DataW.TrodAll enc Try.prog W 0 (fun _ => true) true Try.f5.params.toList args.toList ds p := hA0
  rw [Try.params5] at hA hval
  obtain ⟨v0, vs0, d0, ds0, p0, q0, hargs, rfl, rfl, h0, r0⟩ := trodAll_cons hA
  obtain ⟨v1, vs1, d1, ds1, p1, q1, rfl, rfl, rfl, h1, r1⟩ := trodAll_cons r0
  obtain ⟨v2, vs2, d2, ds2, p2, q2, rfl, rfl, rfl, h2, r2⟩ := trodAll_cons r1
  obtain ⟨rfl, rfl, rfl⟩ := trodAll_nil r2
  obtain rfl : args = #[v0, v1, v2] := by cases args; simp_all
  obtain ⟨rfl, rfl⟩ := trodVars_none hV
  have k0 := h0
  have lt0 : ∀ x ∈ p0, x.block < W.heap.size := by obtain ⟨m, hm⟩ := k0; exact DataW.trod_lt m _ _ _ hm
  obtain ⟨x0, rfl, w0⟩ := dec_int Try.underlying22 (hval 0 22 v0 rfl rfl) h0
  have k1 := h1
  have lt1 : ∀ x ∈ p1, x.block < W.heap.size := by obtain ⟨m, hm⟩ := k1; exact DataW.trod_lt m _ _ _ hm
  obtain ⟨a1, n1, c1, l1, rfl, w1⟩ := dec_bytes Try.underlying23 Try.underlying5 (by kernel_rfl) (hval 1 23 v1 rfl rfl) h1
  have k2 := h2
  have lt2 : ∀ x ∈ p2, x.block < W.heap.size := by obtain ⟨m, hm⟩ := k2; exact DataW.trod_lt m _ _ _ hm
  obtain ⟨a2, n2, c2, l2, rfl, w2⟩ := dec_bytes Try.underlying23 Try.underlying5 (by kernel_rfl) (hval 2 23 v2 rfl rfl) h2
  clear hA0 hval0
  refine (frameBack_walk x0 w0 a1 n1 c1 l1 w1 a2 n2 c2 l2 w2).mono fun e W' ⟨he, bel⟩ => ?_
  subst he
  exact ⟨_, rfl, _, _, _, [], _, [], hW', trodAll_mk1 (shut_bool Try.underlying4 _), (trodAll_cons_mk (Below.trod laidOut (by kernel_rfl) (of_decide_eq_true (by kernel_rfl)) k0 bel lt0) (trodAll_cons_mk (Below.trod laidOut (by kernel_rfl) (of_decide_eq_true (by kernel_rfl)) k1 bel lt1) (trodAll_cons_mk (Below.trod laidOut (by kernel_rfl) (of_decide_eq_true (by kernel_rfl)) k2 bel lt2) trodAll_mk0))), rfl, bel.frame _, fun h => by cases h⟩

theorem over : Rows.frameBackRow.holds Try.pinned (OpenSpec.ofChange Rows.frameBackSpec) :=
  OpenClaim.holds_of_wide 5 Try.f5 rfl rfl rfl rfl rfl rfl rfl ⟨rfl, rfl, rfl, rfl, rfl⟩ rfl rfl rfl rfl rfl (by kernel_rfl) Try.func5 (by kernel_rfl)
    (of_decide_eq_true (by kernel_rfl)) (by unfold Func.isWrapper; first | (rw [if_pos (by decide +kernel)]; kernel_rfl) | (rw [if_neg (by decide +kernel)]; exact ⟨rfl, rfl⟩))
    (fun os started H enc _ => lifted os started H enc)
/-- The given statement. -/
theorem proved : Rows.FrameBackSaid := over
end frameBack

end Go.Proofs.Ytbnjpbabdlhobaa
