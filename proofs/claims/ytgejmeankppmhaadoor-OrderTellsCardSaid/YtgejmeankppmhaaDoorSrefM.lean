/- Contracts of Common and Meet. Contracts of the reference of package span: ends, of, Has, Common. -/
import Derived.Test.YtgejmeankppmhaaDoorUptoM
namespace Go.Proofs.YtgejmeankppmhaaDoor.Bh
open Go.RowKit

/-- What two spans have in common. -/
def cm (a b c d : Nat) : Nat × Nat := upt (max a c) (min (min 4294967296 (a + b)) (c + d))
theorem lim2 (a b c d : Nat) : lim [(false, a, b), (false, c, d)] = min (min 4294967296 b) d := rfl
theorem cm_lt (a b c d : Nat) : (cm a b c d).1 < 4294967296 ∧ (cm a b c d).2 < 4294967296 := upt_lt _ _ (Nat.le_trans (Nat.min_le_left _ _) (Nat.min_le_left _ _))

set_option maxHeartbeats 1000000 in
theorem common_any (a b c d : Nat) (w : World) (ha : a < 4294967296) (hb : b < 4294967296) (hc : c < 4294967296) (hd : d < 4294967296) :
    Calls Tryd.prog 68 #[.agg #[.int .u32 (a : Int), .int .u32 (b : Int)], .agg #[.int .u32 (c : Int), .int .u32 (d : Int)]] w fun e w' => e = .returned (.agg #[.int .u32 ((cm a b c d).1 : Int), .int .u32 ((cm a b c d).2 : Int)]) ∧ Below w.heap.size w w' := by
  obtain ⟨m, hm⟩ : ∃ m, m = max a c := ⟨_, rfl⟩
  have hmx : (if a < c then (c : Int) else (a : Int)) = (m : Int) := by rw [hm]; split <;> omega
  have hm32 : m < 4294967296 := by omega
  have HM := Lib.hid hm
  clear hm
  obtain ⟨p, hp⟩ : ∃ p, p = cm a b c d := ⟨_, rfl⟩
  rw [← hp]
  have HP := Lib.hid hp
  clear hp
  go_enter Tryd.func68, Tryd.ntmps68
  go_wp2
  refine wp_low (w.heap.size + 2) [([0, 1, 2, 3, 4, 5, 6, 9], 7), ([8], 10), ([11], 12), ([], 13), ([], 14)] [] (by kernel_rfl) (by kernel_rfl) (fun d _ _ _ _ h => by cases d <;> exact h) (by simp <;> omega) fun wd hbd => ?_
  obtain ⟨W, hW, hWs, r0, r1, r2, hwW⟩ := boxes3 w #[.int .u32 (a : Int), .int .u32 (b : Int)] #[.int .u32 (c : Int), .int .u32 (d : Int)] #[.int .u32 0, .int .u32 0] 40 40 40
  rw [← hW] at hbd ⊢
  clear hW
  intro g hg
  have d0 := fun z => cellz (j := 0) (hg z) r0 rfl
  have d1 := fun z => cellz (j := 1) (hg z) r0 rfl
  have d2 := fun z => cellz (j := 0) (hg z) r1 rfl
  have d3 := fun z => cellz (j := 1) (hg z) r1 rfl
  simp only [pickI, Option.toList_some, List.cons_append, List.nil_append, List.getElem?_toArray, List.getElem?_cons_succ, List.getElem?_cons_zero]
  repeat (go_big_quiet_step (fail))
  refine wpQuiet_nil ?_
  clear d0 d1 d2 d3 hg g
  refine seg_op (by simp only [List.getElem?_toArray, List.getElem?_cons_succ, List.getElem?_cons_zero]; rfl) fun K hK => ?_
  go_simp
  refine (runOf_any a b _ ha hb).mono ?_
  rintro e w1 ⟨rfl, hb1⟩
  have hz1 := hbd.trans (hb1.mono hbd.size)
  refine hK.out _ _ (seg_keep (hz1.mono (by omega)) ?_)
  clear hK K
  intro g hg
  simp only [pickI, Option.toList_some, List.cons_append, List.nil_append, List.getElem?_toArray, List.getElem?_cons_succ, List.getElem?_cons_zero]
  repeat (go_big_quiet_step (fail))
  refine wpQuiet_nil ?_
  clear hg g
  refine seg_op (by simp only [List.getElem?_toArray, List.getElem?_cons_succ, List.getElem?_cons_zero]; rfl) fun K hK => ?_
  go_simp
  refine (runOf_any c d _ hc hd).mono ?_
  rintro e w2 ⟨rfl, hb2⟩
  have hz2 := hz1.trans (hb2.mono hz1.size)
  refine hK.out _ _ (seg_keep (hz2.mono (by omega)) ?_)
  clear hK K
  intro g hg
  simp only [pickI, Option.toList_some, List.cons_append, List.nil_append, List.getElem?_toArray, List.getElem?_cons_succ, List.getElem?_cons_zero]
  repeat (go_big_quiet_step (fail))
  refine wpQuiet_nil ?_
  clear hg g
  refine seg_op (by simp only [List.getElem?_toArray, List.getElem?_cons_succ, List.getElem?_cons_zero]; rfl) fun K hK => ?_
  go_simp
  refine hK.out _ _ (seg_keep ((hz2.alloc hz2.size _).mono (by omega)) ?_)
  clear hK K
  intro g hg
  refine wpQuiet_nil ?_
  clear hg g
  refine seg_op (by simp only [List.getElem?_toArray, List.getElem?_cons_succ, List.getElem?_cons_zero]; rfl) fun K hK => ?_
  go_simp
  have hes : ([(false, a, a + b), (false, c, c + d)] : List (Bool × Nat × Nat)).map feV = [.func (.func 78) #[.agg #[.int .u64 (a : Int), .int .u64 ((a : Int) + (b : Int))]] #[], .func (.func 78) #[.agg #[.int .u64 (c : Int), .int .u64 ((c : Int) + (d : Int))]] #[]] := by simp [feV]
  refine (upTo_any m _ 2 2 [(false, a, a + b), (false, c, c + d)] _ (by omega) rfl (by rw [hes]; exact Rd.lit w2 _ _ rfl (by unfold maxLen; omega) (by simp))).mono ?_
  rintro e w3 ⟨rfl, hb3⟩
  rw [HM.out, lim2, show upt (max a c) (min (min 4294967296 (a + b)) (c + d)) = p from HP.out.symm]
  have hz3 := hz2.trans ((unal hb3).mono hz2.size)
  refine hK.out _ _ (seg_keep (hz3.mono (by omega)) ?_)
  clear hK K
  intro g hg
  refine wpQuiet_nil ?_
  clear hg g
  have e0 := cellz (j := 0) (u := .int .u32 0) hz3 r2 rfl
  have e1 := cellz (j := 1) (u := .int .u32 0) hz3 r2 rfl
  have z0 := frozenz hz3 0 r2
  have z1 := frozenz hz3 1 r2
  refine seg_op (by simp only [List.getElem?_toArray, List.getElem?_cons_succ, List.getElem?_cons_zero]; rfl) fun K hK => ?_
  go_simp
  have hz4 := ((show Below (w.heap.size + 2) W w3 from hz3.mono (by omega)).setCell (p := ⟨w.heap.size + 2, 0, none⟩) (by simp) (.int .u32 (p.1 : Int))).setCell (p := ⟨w.heap.size + 2, 1, none⟩) (by simp) (.int .u32 (p.2 : Int))
  refine hK.out _ _ (seg_keep hz4 ?_)
  clear hK K
  intro g hg
  refine wpQuiet_nil ?_
  clear hg g
  go_wp2
  exact bodyPost_ret (v := .agg #[.int .u32 (p.1 : Int), .int .u32 (p.2 : Int)]) (by simp [results, Tryd.results68, go_sem, e0, e1]) rfl ⟨rfl, hwW.trans (hz4.mono (by omega))⟩

set_option maxHeartbeats 1000000 in
theorem meet_any (a b c d : Nat) (w : World) (ha : a < 4294967296) (hb : b < 4294967296) (hc : c < 4294967296) (hd : d < 4294967296) :
    Calls Tryd.prog 56 #[.agg #[.int .u32 (a : Int), .int .u32 (b : Int)], .agg #[.int .u32 (c : Int), .int .u32 (d : Int)]] w fun e w' => e = .returned (.bool (decide (0 < (cm a b c d).2))) ∧ Below w.heap.size w w' := by
  have key : cm a b c d = (0, 0) ∨ 0 < (cm a b c d).2 := by
    unfold cm upt; split <;> simp; omega
  have hcon := fun W => common_any a b c d W ha hb hc hd
  generalize cm a b c d = p at *
  rcases key with rfl | hp
  · go_enter Tryd.func56, Tryd.ntmps56
    go_wp2_with (go_at_call 68; refine (hcon _).mono ?_; rintro e w1 ⟨rfl, hb1⟩)
    go_ret
    exact ⟨ret_bool (by simp), unal (unal hb1)⟩
  · obtain ⟨x, y⟩ := p
    have q1 : ((y : Int) == 0) = false := by simp at hp ⊢; omega
    go_enter Tryd.func56, Tryd.ntmps56
    go_wp2_with (go_at_call 68; refine (hcon _).mono ?_; rintro e w1 ⟨rfl, hb1⟩)

    go_ret
    exact ⟨ret_bool (by simp; omega), unal (unal hb1)⟩

end Go.Proofs.YtgejmeankppmhaaDoor.Bh

namespace Go.Proofs.YtgejmeankppmhaaDoor.Bh
open Go.RowKit

theorem ret_tuple {k : IntKind} {a b c d : Int} (h : a = c) (h2 : b = d) : Ending.returned (.tuple #[.int k a, .int k b]) = .returned (.tuple #[.int k c, .int k d]) := by rw [h, h2]

theorem u32w (x : Int) (h : 0 ≤ x) (h2 : x < 4294967296) : IntKind.u32.wrap x = x := by
  simp only [IntKind.wrap_u32]; omega
/-- Where a span's blocks end. -/
def en (a b : Nat) : Nat := min (a + b) 4294967296
theorem ends_any (f c : Nat) (w : World) (hf : f < 4294967296) (hc : c < 4294967296) :
    Calls Tryd.prog 69 #[.agg #[.int .u32 (f : Int), .int .u32 (c : Int)]] w fun e w' => e = .returned (.tuple #[.int .u64 (f : Int), .int .u64 ((en f c : Nat) : Int)]) ∧ Below w.heap.size w w' := by
  obtain ⟨m, hm⟩ : ∃ m, m = en f c := ⟨_, rfl⟩
  rw [← hm]
  have hmx : (if (4294967296 : Int) < (f : Int) + (c : Int) then (4294967296 : Int) else (f : Int) + (c : Int)) = (m : Int) := by rw [hm]; unfold en; split <;> omega
  clear hm
  go_enter Tryd.func69, Tryd.ntmps69
  go_wp2
  refine wp_low (w.heap.size + 1) [] [0, 1, 2, 3, 4, 5, 6, 7, 8, 9, 10, 11, 12] (by kernel_rfl) (by kernel_rfl) (fun d _ _ _ _ h => by cases d <;> exact h) (by simp <;> omega) fun wd hbd => ?_
  intro g hg
  have d0 : ∀ z, (g z).cell? ⟨w.heap.size, 0, none⟩ = some (.int .u32 (f : Int)) := fun z => kept (hg z) (by simp)
  have d1 : ∀ z, (g z).cell? ⟨w.heap.size, 1, none⟩ = some (.int .u32 (c : Int)) := fun z => kept (hg z) (by simp)
  simp only [pickI, Option.toList_some, List.cons_append, List.nil_append, List.getElem?_toArray, List.getElem?_cons_succ, List.getElem?_cons_zero]
  repeat (go_big_quiet_step (fail))
  refine wpQuiet_nil ?_
  clear d0 d1 hg g
  go_wp2
  go_ret2
  exact ⟨by first | exact ret_tuple rfl (by assumption) | exact ret_tuple rfl (by omega), unal hbd⟩

set_option maxRecDepth 8000 in
theorem of_any (x y : Nat) (w : World) (hx : x ≤ 4294967296) (hy : y ≤ 4294967296) (h : Hid (y < x + 4294967296)) :
    Calls Tryd.prog 70 #[.int .u64 (x : Int), .int .u64 (y : Int)] w fun e w' => e = .returned (.agg #[.int .u32 ((upt x y).1 : Int), .int .u32 ((upt x y).2 : Int)]) ∧ Below w.heap.size w w' := by
  by_cases hxy : y ≤ x
  · rw [upt_no x y hxy]
    go_enter Tryd.func70, Tryd.ntmps70
    go_wp2
    exact bodyPost_ret (v := .agg #[.int .u32 0, .int .u32 0]) (by simp [results, Tryd.results70, go_sem]) rfl ⟨rfl, (Below.refl _ _).alloc (Nat.le_refl _) _⟩
  · obtain ⟨z, rfl⟩ : ∃ z, y = x + z := ⟨y - x, by omega⟩
    have hz0 : 0 < z := by omega
    have hz1 : z < 4294967296 := by have := h.out; omega
    have hx1 : x < 4294967296 := by omega
    have q2 : upt x (x + z) = (x, z) := by rw [upt_yes x (x + z) (by omega)]; congr 1; omega
    rw [q2]
    clear q2 h hxy hx hy
    go_enter Tryd.func70, Tryd.ntmps70
    go_wp2
    exact bodyPost_ret (v := .agg #[.int .u32 (x : Int), .int .u32 ((x : Int) + (z : Int) - (x : Int))]) (by simp [results, Tryd.results70, go_sem]) rfl ⟨agg_ret' _ _ _ _ rfl (by omega), (Below.refl _ _).alloc (Nat.le_refl _) _⟩

/-- What the reference says that two have in common is the same. -/
theorem cm_of (a b c d : Nat) (ha : a < 4294967296) (hb : b < 4294967296) : upt (max a c) (min (en a b) (en c d)) = cm a b c d := by
  unfold cm en
  congr 1
  omega

set_option maxHeartbeats 1000000 in
theorem rcommon_any (a b c d : Nat) (w : World) (ha : a < 4294967296) (hb : b < 4294967296) (hc : c < 4294967296) (hd : d < 4294967296) :
    Calls Tryd.prog 58 #[.agg #[.int .u32 (a : Int), .int .u32 (b : Int)], .agg #[.int .u32 (c : Int), .int .u32 (d : Int)]] w fun e w' => e = .returned (.agg #[.int .u32 ((cm a b c d).1 : Int), .int .u32 ((cm a b c d).2 : Int)]) ∧ Below w.heap.size w w' := by
  obtain ⟨m, hm⟩ : ∃ m, m = max a c := ⟨_, rfl⟩
  obtain ⟨x, hx⟩ : ∃ x, x = en a b := ⟨_, rfl⟩
  obtain ⟨y, hy⟩ : ∃ y, y = en c d := ⟨_, rfl⟩
  obtain ⟨t, ht⟩ : ∃ t, t = min x y := ⟨_, rfl⟩
  have he1 := fun W => ends_any a b W ha hb
  have he2 := fun W => ends_any c d W hc hd
  have hp : cm a b c d = upt m t := by rw [ht, hx, hy, hm, cm_of a b c d ha hb]
  have hof := fun W => of_any m t W (by omega) (by unfold en at hx; omega) (Lib.hid (by unfold en at hx; omega))
  rw [hp]
  rw [← hx] at he1
  rw [← hy] at he2
  have hmx : (if a < c then (c : Int) else (a : Int)) = (m : Int) := by rw [hm]; split <;> omega
  have htx : (if y < x then (y : Int) else (x : Int)) = (t : Int) := by rw [ht]; split <;> omega
  generalize upt m t = p at hof
  clear hm hx hy ht hp
  go_enter Tryd.func58, Tryd.ntmps58
  go_wp2_with fail
  refine (he1 _).mono ?_
  rintro e w1 ⟨rfl, hb1⟩
  obtain ⟨W, hW, hWs, r0, r1, r2, hwW⟩ := boxes3 w #[.int .u32 (a : Int), .int .u32 (b : Int)] #[.int .u32 (c : Int), .int .u32 (d : Int)] #[.int .u32 0, .int .u32 0] 112 112 112
  rw [← hW] at hb1
  clear hW
  have e0 := cellz (j := 0) (u := .int .u32 (c : Int)) hb1 r1 rfl
  have e1 := cellz (j := 1) (u := .int .u32 (d : Int)) hb1 r1 rfl
  go_wp2_with fail
  refine (he2 _).mono ?_
  rintro e w2 ⟨rfl, hb2⟩
  have hz2 := hb1.trans (hb2.mono hb1.size)
  go_wp2_with fail
  refine (hof _).mono ?_
  rintro e w3 ⟨rfl, hb3⟩
  have hz3 := hz2.trans (hb3.mono hz2.size)
  have c0 := cellz (j := 0) (u := .int .u32 0) hz3 r2 rfl
  have c1 := cellz (j := 1) (u := .int .u32 0) hz3 r2 rfl
  have z0 := frozenz hz3 0 r2
  have z1 := frozenz hz3 1 r2
  go_wp2
  exact bodyPost_ret (v := .agg #[.int .u32 (p.1 : Int), .int .u32 (p.2 : Int)]) (by simp [results, Tryd.results58, go_sem, c0, c1]) rfl ⟨rfl, hwW.trans ((((show Below (w.heap.size + 2) W w3 from hz3.mono (by omega)).setCell (by simp) _).setCell (by simp) _).mono (by omega))⟩

end Go.Proofs.YtgejmeankppmhaaDoor.Bh
