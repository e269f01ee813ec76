/- Contracts of package span, its first half: ends, runs, and what lies up to where the first of some ends. The contract of upTo: the blocks from one on, up to where the first of some ends. -/
import Derived.Test.YtgejmeankppmhaaDoorRowkitM
import Derived.Test.YtgejmeankppmhaaDoorSegsM
namespace Go.Proofs.YtgejmeankppmhaaDoor.Bh
open Go.RowKit

section
variable {N : Nat} {W wd : World}
theorem kept (h : Below N W wd) {b o : Nat} {u : Value} (hc : W.cell? ⟨b, o, none⟩ = some u) (hb : b < N := by first | omega | (simp <;> omega)) : wd.cell? ⟨b, o, none⟩ = some u := (h.cell (p := ⟨b, o, none⟩) hb).trans hc
theorem keptz (h : Below N W wd) {b o : Nat} {t : Bool} (hc : W.frozen? ⟨b, o, none⟩ = t) (hb : b < N := by first | omega | (simp <;> omega)) : wd.frozen? ⟨b, o, none⟩ = t := (h.frozen (p := ⟨b, o, none⟩) hb).trans hc
theorem row_here (w : World) (o : Obj) {n : Nat} (hn : n = w.heap.size) : (w.alloc o).heap[n]? = some o := by subst hn; exact heap_alloc_new w o
theorem row_old {w : World} {o' : Obj} (o : Obj) {n : Nat} (h : w.heap[n]? = some o') : (w.alloc o).heap[n]? = some o' := (heap_alloc_old w o (Array.getElem?_eq_some_iff.1 h).1).trans h
theorem cellz (h : Below N W wd) {b j : Nat} {cs : Array Value} {t : TypeId} {fr : Nat × Nat} {u : Value} (hr : W.heap[b]? = some (.cells cs t fr)) (hj : cs[j]? = some u) (hb : b < N := by first | omega | (simp <;> omega)) : wd.cell? ⟨b, j, none⟩ = some u := by
  rw [cell_of_row wd b j cs t fr ((h.block b hb).trans hr)]
  exact hj
theorem frozenz (h : Below N W wd) {b : Nat} (j : Nat) {cs : Array Value} {t : TypeId} (hr : W.heap[b]? = some (.cells cs t (0, 0))) (hb : b < N := by first | omega | (simp <;> omega)) : wd.frozen? ⟨b, j, none⟩ = false :=
  frozen_of_row wd b j cs t ((h.block b hb).trans hr)
theorem unalloc {o : Obj} (h : Below N (W.alloc o) wd) (hN : N ≤ W.heap.size) : Below N W wd := ((Below.refl W.heap.size W).alloc (Nat.le_refl _) o).mono hN |>.trans h
end
theorem unal {w w' : World} {o : Obj} (h : Below (w.alloc o).heap.size (w.alloc o) w') : Below w.heap.size w w' := unalloc (h.mono (by simp)) (Nat.le_refl _)
/-- Two and three new blocks. -/
theorem boxes2 (w : World) (p q : Array Value) (s t : TypeId) : ∃ W, W = (w.alloc (.cells p s)).alloc (.cells q t) ∧ W.heap.size = w.heap.size + 2 ∧ W.heap[w.heap.size]? = some (.cells p s (0, 0)) ∧ W.heap[w.heap.size + 1]? = some (.cells q t (0, 0)) ∧ Below w.heap.size w W :=
  ⟨_, rfl, by simp, (by first | exact row_here _ _ (by simp) | exact row_old _ (row_here _ _ (by simp)) | exact row_old _ (row_old _ (row_here _ _ (by simp))) | exact row_old _ (row_old _ (row_old _ (row_here _ _ (by simp))))), (by first | exact row_here _ _ (by simp) | exact row_old _ (row_here _ _ (by simp)) | exact row_old _ (row_old _ (row_here _ _ (by simp))) | exact row_old _ (row_old _ (row_old _ (row_here _ _ (by simp))))), ((Below.refl _ _).alloc (Nat.le_refl _) _).alloc (by simp) _⟩
theorem boxes3 (w : World) (p q r : Array Value) (s t u : TypeId) : ∃ W, W = ((w.alloc (.cells p s)).alloc (.cells q t)).alloc (.cells r u) ∧ W.heap.size = w.heap.size + 3 ∧ W.heap[w.heap.size]? = some (.cells p s (0, 0)) ∧ W.heap[w.heap.size + 1]? = some (.cells q t (0, 0)) ∧ W.heap[w.heap.size + 2]? = some (.cells r u (0, 0)) ∧ Below w.heap.size w W :=
  ⟨_, rfl, by simp, (by first | exact row_here _ _ (by simp) | exact row_old _ (row_here _ _ (by simp)) | exact row_old _ (row_old _ (row_here _ _ (by simp))) | exact row_old _ (row_old _ (row_old _ (row_here _ _ (by simp))))), (by first | exact row_here _ _ (by simp) | exact row_old _ (row_here _ _ (by simp)) | exact row_old _ (row_old _ (row_here _ _ (by simp))) | exact row_old _ (row_old _ (row_old _ (row_here _ _ (by simp))))), (by first | exact row_here _ _ (by simp) | exact row_old _ (row_here _ _ (by simp)) | exact row_old _ (row_old _ (row_here _ _ (by simp))) | exact row_old _ (row_old _ (row_old _ (row_here _ _ (by simp))))), (((Below.refl _ _).alloc (Nat.le_refl _) _).alloc (by simp) _).alloc (by simp; omega) _⟩
theorem ret_u64 {a b : Int} (h : a = b) : Ending.returned (.int .u64 a) = .returned (.int .u64 b) := by rw [h]
theorem ret_bool {a b : Bool} (h : a = b) : Ending.returned (.bool a) = .returned (.bool b) := by rw [h]

theorem end_any (f c : Nat) (w : World) (hf : f < 4294967296) (hc : c < 4294967296) :
    Calls Tryd.prog 65 #[.agg #[.int .u32 (f : Int), .int .u32 (c : Int)]] w fun e w' => e = .returned (.int .u64 ((f + c : Nat) : Int)) ∧ Below w.heap.size w w' := by
  go_enter Tryd.func65, Tryd.ntmps65
  go_wp2
  go_ret
  exact ⟨ret_u64 (by omega), (Below.refl _ _).alloc (Nat.le_refl _) _⟩

theorem runOf_any (f c : Nat) (w : World) (hf : f < 4294967296) (hc : c < 4294967296) :
    Calls Tryd.prog 77 #[.agg #[.int .u32 (f : Int), .int .u32 (c : Int)]] w fun e w' => e = .returned (.agg #[.int .u64 (f : Int), .int .u64 ((f + c : Nat) : Int)]) ∧ Below w.heap.size w w' := by
  go_enter Tryd.func77, Tryd.ntmps77
  go_wp2
  refine wp_low (w.heap.size + 1) [([0, 1, 2, 3], 4), ([5], 6)] [] (by kernel_rfl) (by kernel_rfl) (fun d _ _ _ _ h => by cases d <;> exact h) (by simp <;> omega) fun wd hbd => ?_
  intro g hg
  have d0 : ∀ z, (g z).cell? ⟨w.heap.size, 0, none⟩ = some (.int .u32 (f : Int)) := fun z => kept (hg z) (by simp)
  have d1 : ∀ z, (g z).cell? ⟨w.heap.size, 1, none⟩ = some (.int .u32 (c : Int)) := fun z => kept (hg z) (by simp)
  simp only [pickI, Option.toList_some, List.cons_append, List.nil_append, List.getElem?_toArray, List.getElem?_cons_succ, List.getElem?_cons_zero]
  repeat (go_big_quiet_step (fail))
  refine wpQuiet_nil ?_
  clear d0 d1 hg g
  refine seg_op (by simp only [List.getElem?_toArray, List.getElem?_cons_succ, List.getElem?_cons_zero]; rfl) fun K hK => ?_
  go_simp
  refine (end_any f c _ hf hc).mono ?_
  rintro e w1 ⟨rfl, hb1⟩
  have hz := hbd.trans (hb1.mono hbd.size)
  refine hK.out _ _ (seg_keep (hz.mono (by simp)) ?_)
  clear hK K
  intro g hg
  simp only [pickI, Option.toList_some, List.cons_append, List.nil_append, List.getElem?_toArray, List.getElem?_cons_succ, List.getElem?_cons_zero]
  repeat (go_big_quiet_step (fail))
  refine wpQuiet_nil ?_
  clear hg g
  refine seg_op (by simp only [List.getElem?_toArray, List.getElem?_cons_succ, List.getElem?_cons_zero]; rfl) fun K hK => ?_
  have e0 : w1.cell? ⟨w.heap.size + 1, 0, none⟩ = some (.int .u64 0) := kept hz (by simp)
  have e1 : w1.cell? ⟨w.heap.size + 1, 1, none⟩ = some (.int .u64 0) := kept hz (by simp)
  have z0 : w1.frozen? ⟨w.heap.size + 1, 0, none⟩ = false := keptz hz (by simp)
  have z1 : w1.frozen? ⟨w.heap.size + 1, 1, none⟩ = false := keptz hz (by simp)
  go_simp
  have hz2 := ((show Below (w.heap.size + 1) _ w1 from hz.mono (by simp)).setCell (p := ⟨w.heap.size + 1, 0, none⟩) (by simp) (.int .u64 (f : Int))).setCell (p := ⟨w.heap.size + 1, 1, none⟩) (by simp) (.int .u64 ((f : Int) + (c : Int)))
  refine hK.out _ _ (seg_keep hz2 ?_)
  clear hK K
  intro g hg
  refine wpQuiet_nil ?_
  clear hg g
  go_wp2
  exact bodyPost_ret (v := .agg #[.int .u64 (f : Int), .int .u64 ((f + c : Nat) : Int)]) (by simp [results, Tryd.results77, go_sem, e0, e1]) rfl ⟨rfl, unalloc (unalloc (hz2.mono (by simp)) (by simp)) (by simp)⟩

theorem rend_any (x y : Nat) (w : World) : Calls Tryd.prog 78 #[.agg #[.int .u64 (x : Int), .int .u64 (y : Int)]] w fun e w' => e = .returned (.int .u64 (y : Int)) ∧ Below w.heap.size w w' := by
  go_enter Tryd.func78, Tryd.ntmps78
  go_wp2
  go_ret
  exact ⟨rfl, (Below.refl _ _).alloc (Nat.le_refl _) _⟩
theorem good_any (f c b : Nat) (w : World) (hf : f < 4294967296) (hc : c < 4294967296) (hb : b < 4294967296) :
    Calls Tryd.prog 44 #[.agg #[.int .u32 (f : Int), .int .u32 (c : Int)], .int .u32 (b : Int)] w fun e w' => e = .returned (.bool (decide (0 < c ∧ f + c ≤ b))) ∧ Below w.heap.size w w' := by
  by_cases h1 : c = 0
  · subst h1
    go_enter Tryd.func44, Tryd.ntmps44
    go_wp2
    go_ret
    exact ⟨ret_bool (by simp), (Below.refl _ _).alloc (Nat.le_refl _) _⟩
  · have q1 : ((c : Int) != 0) = true := by simpa using h1
    go_enter Tryd.func44, Tryd.ntmps44
    go_wp2_with (go_at_call 65; refine (end_any f c _ hf hc).mono ?_; rintro e w1 ⟨rfl, hb1⟩)
    go_ret
    exact ⟨ret_bool (decide_eq_decide.2 (by omega)), unalloc (hb1.mono (by simp)) (by simp)⟩

end Go.Proofs.YtgejmeankppmhaaDoor.Bh

namespace Go.Proofs.YtgejmeankppmhaaDoor.Bh
open Go.RowKit

/-- A method value that tells where a run begins, or ends. -/
def feV (e : Bool × Nat × Nat) : Value := .func (.func (if e.1 then 78 else 78)) #[.agg #[.int .u64 (e.2.1 : Int), .int .u64 (e.2.2 : Int)]] #[]
def feN (e : Bool × Nat × Nat) : Nat := e.2.2
def lim (es : List (Bool × Nat × Nat)) : Nat := es.foldl (fun t e => min t (feN e)) 4294967296
theorem lim_snoc (es : List (Bool × Nat × Nat)) (e : Bool × Nat × Nat) : lim (es ++ [e]) = min (lim es) (feN e) := by simp [lim]
theorem lim_le (es : List (Bool × Nat × Nat)) : lim es ≤ 4294967296 := by
  have : ∀ (l : List (Bool × Nat × Nat)) t, l.foldl (fun t e => min t (feN e)) t ≤ t := by
    intro l
    induction l with
    | nil => intro t; exact Nat.le_refl _
    | cons e l ih => intro t; exact Nat.le_trans (ih _) (Nat.min_le_left _ _)
  exact this es _
def upt (x t : Nat) : Nat × Nat := if t ≤ x then (0, 0) else (x, min (t - x) 4294967295)
theorem upt_lt (x t : Nat) (ht : t ≤ 4294967296) : (upt x t).1 < 4294967296 ∧ (upt x t).2 < 4294967296 := by
  unfold upt; split <;> simp <;> omega
theorem upt_no (x t : Nat) (h : t ≤ x) : upt x t = (0, 0) := by unfold upt; rw [if_pos h]
theorem upt_yes (x t : Nat) (h : x < t) : upt x t = (x, min (t - x) 4294967295) := by unfold upt; rw [if_neg (by omega)]

theorem feV_get (es : List (Bool × Nat × Nat)) (i : Nat) (u : Value) (h : (es.map feV)[i]? = some u) : ∃ e, es[i]? = some e ∧ u = feV e := by
  simp only [List.getElem?_map, Option.map_eq_some_iff] at h
  obtain ⟨x, hx, rfl⟩ := h
  exact ⟨x, hx, rfl⟩

theorem agg_ret (x y : Nat) (p : Nat × Nat) (h : p = (x, y)) : Ending.returned (.agg #[.int .u32 (x : Int), .int .u32 (y : Int)]) = .returned (.agg #[.int .u32 (p.1 : Int), .int .u32 (p.2 : Int)]) := by rw [h]
theorem agg_ret' (a b c d : Int) (h : a = c) (h2 : b = d) : Ending.returned (.agg #[.int .u32 a, .int .u32 b]) = .returned (.agg #[.int .u32 c, .int .u32 d]) := by rw [h, h2]

set_option maxHeartbeats 1000000 in
theorem upTo_any (x : Nat) (A : Option Addr) (n c : Nat) (es : List (Bool × Nat × Nat)) (w : World) (hx : x ≤ 4294967296) (hl : es.length = n) (h : Rd w w.heap.size 1 A n c (es.map feV)) :
    Calls Tryd.prog 76 #[.int .u64 (x : Int), .slice A n c] w fun e w' => e = .returned (.agg #[.int .u32 ((upt x (lim es)).1 : Int), .int .u32 ((upt x (lim es)).2 : Int)]) ∧ Below w.heap.size w w' := by
  have hnc := h.1
  have hcm := h.2.1
  unfold maxLen at hcm
  have HL := Lib.hid hl
  clear hl
  go_enter Tryd.func76, Tryd.ntmps76
  go_wp2
  go_loopw [5, 10] (fun tr ir wr => ∃ i t : Nat, i ≤ n ∧ Hid (t = lim (es.take i)) ∧ ir = .int .i64 i ∧ tr = .int .u64 (t : Int) ∧ Hid (wr.cell? ⟨w.heap.size, 0, none⟩ = some (.int .u32 0) ∧ wr.cell? ⟨w.heap.size, 1, none⟩ = some (.int .u32 0) ∧ wr.frozen? ⟨w.heap.size, 0, none⟩ = false ∧ wr.frozen? ⟨w.heap.size, 1, none⟩ = false) ∧ Below w.heap.size w wr) (fun _ ir _ => n - (intOf ir).toNat)
  case atStart => exact ⟨0, 4294967296, Nat.zero_le _, Lib.hid rfl, rfl, rfl, Lib.hid ⟨by simp, by simp, by simp, by simp⟩, (Below.refl _ _).alloc (Nat.le_refl _) _⟩
  case round =>
    obtain ⟨i, t, hi, ht, rfl, rfl, hcell, hb⟩ := hrel
    by_cases hlt : i < n
    · obtain ⟨b, o, u, rfl, hbl, hu, hc⟩ := (h.below hb).at_ hlt
      obtain ⟨e, he, rfl⟩ := feV_get _ _ _ hu
      have hs : es.take (i + 1) = es.take i ++ [e] := by
        obtain ⟨hi', rfl⟩ := List.getElem?_eq_some_iff.1 he
        exact List.take_succ_eq_append_getElem hi'
      have ht' : Hid (min t (feN e) = lim (es.take (i + 1))) := Lib.hid (by rw [hs, lim_snoc, ht.out])
      have hzr : w.heap.size < wr.heap.size := World.block_lt_of_cell? wr _ hcell.out.1
      obtain ⟨k, y, z⟩ := e
      clear hs he hu
      cases k
      · simp only [feV, Bool.false_eq_true, if_false] at hc
        go_wp2_with (go_at_call 78; refine (rend_any y z _).mono ?_; rintro e w1 ⟨rfl, hb1⟩)
        go_roundw
        case rel => exact ⟨i + 1, min t z, by omega, ht', by go_num, by go_num, Lib.hid ⟨kept hb1 hcell.out.1 hzr, kept hb1 hcell.out.2.1 hzr, keptz hb1 hcell.out.2.2.1 hzr, keptz hb1 hcell.out.2.2.2 hzr⟩, hb.trans (hb1.mono hb.size)⟩
        case measure => simp [intOf]; omega
      · simp only [feV, if_true] at hc
        go_wp2_with (go_at_call 78; refine (rend_any y z _).mono ?_; rintro e w1 ⟨rfl, hb1⟩)
        go_roundw
        case rel => exact ⟨i + 1, min t z, by omega, ht', by go_num, by go_num, Lib.hid ⟨kept hb1 hcell.out.1 hzr, kept hb1 hcell.out.2.1 hzr, keptz hb1 hcell.out.2.2.1 hzr, keptz hb1 hcell.out.2.2.2 hzr⟩, hb.trans (hb1.mono hb.size)⟩
        case measure => simp [intOf]; omega
    · have hT : Hid (t = lim es) := Lib.hid (by rw [ht.out, List.take_of_length_le (by rw [HL.out]; omega)])
      have hTl : t ≤ 4294967296 := by rw [hT.out]; exact lim_le es
      obtain ⟨c0, c1, z0, z1⟩ := hcell.out
      clear ht
      have fin : ∀ (a b : Int) (p q : Nat), a = (p : Int) → b = (q : Int) → upt x t = (p, q) → Ending.returned (.agg #[.int .u32 a, .int .u32 b]) = .returned (.agg #[.int .u32 ((upt x (lim es)).1 : Int), .int .u32 ((upt x (lim es)).2 : Int)]) := by
        intro a b p q ha hb' h
        rw [← hT.out, h, ha, hb']
      have FIN := Lib.hid fin
      clear fin
      by_cases htx : t ≤ x
      · have q2 := Lib.hid (upt_no x t htx)
        go_wp2
        exact bodyPost_ret (v := .agg #[.int .u32 0, .int .u32 0]) (by simp [results, Tryd.results76, go_sem, c0, c1]) rfl ⟨FIN.out 0 0 0 0 rfl rfl q2.out, (hb.setCell (by simp) _).setCell (by simp) _⟩
      · have q2 := Lib.hid (upt_yes x t (by omega))
        have q3 : (x : Int) < (t : Int) := by omega
        have q4 : (x : Int) < 4294967296 := by omega
        by_cases hm : 4294967295 < (t : Int) - (x : Int)
        · go_wp2
          exact bodyPost_ret (v := .agg #[.int .u32 (x : Int), .int .u32 4294967295]) (by simp [results, Tryd.results76, go_sem, c0, c1]) rfl ⟨FIN.out (x : Int) 4294967295 x 4294967295 rfl rfl (by rw [q2.out]; congr 1; omega), (hb.setCell (by simp) _).setCell (by simp) _⟩
        · have q5 : (t : Int) - (x : Int) ≤ 4294967295 := by omega
          go_wp2
          exact bodyPost_ret (v := .agg #[.int .u32 (x : Int), .int .u32 ((t : Int) - (x : Int))]) (by simp [results, Tryd.results76, go_sem, c0, c1]) rfl ⟨FIN.out (x : Int) ((t : Int) - (x : Int)) x (t - x) rfl (by omega) (by rw [q2.out]; congr 1; omega), (hb.setCell (by simp) _).setCell (by simp) _⟩

end Go.Proofs.YtgejmeankppmhaaDoor.Bh
