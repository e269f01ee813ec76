/- A vow in memory, and its calls. -/
import Derived.Test.YteakdmabdfpiiaaTwx
namespace Go.Proofs.Yteakdmabdfpiiaa
set_option maxRecDepth 20000
open Go.RowKit

/-- A promise: a term, and a vote (0: none; else the node's number and 1). -/
structure Vv where
  term : Nat
  vote : Nat
def vowRow (g : Option Addr) (v : Vv) : Array Value := #[.int .u64 (v.term : Int), .int .u64 (v.vote : Int), .pointer g]
/-- A vow's row. -/
def Vw (w : World) (V : Nat) (g : Option Addr) (v : Vv) : Prop := w.heap[V]? = some (.cells (vowRow g v) 87 (0, 0))
section
variable {w : World} {V : Nat} {g : Option Addr} {v : Vv}
theorem Vw.c0 (h : Vw w V g v) : w.cell? ⟨V, 0, none⟩ = some (.int .u64 (v.term : Int)) := cell_of_row w V 0 _ _ _ h
theorem Vw.c1 (h : Vw w V g v) : w.cell? ⟨V, 1, none⟩ = some (.int .u64 (v.vote : Int)) := cell_of_row w V 1 _ _ _ h
theorem Vw.c2 (h : Vw w V g v) : w.cell? ⟨V, 2, none⟩ = some (.pointer g) := cell_of_row w V 2 _ _ _ h
theorem Vw.lt (h : Vw w V g v) : V < w.heap.size := (Array.getElem?_eq_some_iff.1 h).1
theorem Vw.below {w' : World} (h : Vw w V g v) (hb : Below w.heap.size w w') : Vw w' V g v := (hb.block V h.lt).trans h
end
/-- A vote as a number: -1, if there is none. -/
def Vv.node (v : Vv) : Int := if v.vote = 0 then -1 else (v.vote : Int) - 1
def Vv.cells (v : Vv) : Array Value := #[.int .u64 (v.term : Int), .int .i64 v.node]
def Vv.text (v : Vv) : List UInt8 := le 8 v.term ++ le 1 v.vote

theorem vopen_nil (w : World) : Calls Try.prog 57 #[.pointer none] w fun e w' => e = .returned (.bool false) ∧ w = w' := by
  go_enter Try.func57, Try.ntmps57
  go_wp2
  go_ret
  exact ⟨rfl, rfl⟩
theorem vopen_bare {w : World} {V : Nat} {v : Vv} (h : Vw w V none v) : Calls Try.prog 57 #[.pointer (some ⟨V, 0, none⟩)] w fun e w' => e = .returned (.bool false) ∧ w = w' := by
  have c2 := h.c2
  go_enter Try.func57, Try.ntmps57
  go_wp2
  go_ret
  exact ⟨rfl, rfl⟩
theorem vopen_any {w : World} {V : Nat} {a : Addr} {v : Vv} (h : Vw w V (some a) v) : Calls Try.prog 57 #[.pointer (some ⟨V, 0, none⟩)] w fun e w' => e = .returned (.bool true) ∧ w = w' := by
  have c2 := h.c2
  go_enter Try.func57, Try.ntmps57
  go_wp2
  go_ret
  exact ⟨rfl, rfl⟩
theorem vterm_nil (w : World) : Calls Try.prog 55 #[.pointer none] w fun e w' => e = .returned (.int .u64 0) ∧ w = w' := by
  go_enter Try.func55, Try.ntmps55
  go_wp2
  go_ret
  exact ⟨rfl, rfl⟩
theorem vterm_any {w : World} {V : Nat} {g : Option Addr} {v : Vv} (h : Vw w V g v) : Calls Try.prog 55 #[.pointer (some ⟨V, 0, none⟩)] w fun e w' => e = .returned (.int .u64 (v.term : Int)) ∧ w = w' := by
  have c0 := h.c0
  go_enter Try.func55, Try.ntmps55
  go_wp2
  go_ret
  exact ⟨rfl, rfl⟩
theorem vvote_nil (w : World) : Calls Try.prog 54 #[.pointer none] w fun e w' => e = .returned (.tuple #[.int .i64 0, .bool false]) ∧ w = w' := by
  go_enter Try.func54, Try.ntmps54
  go_wp2
  go_ret2
  exact ⟨rfl, rfl⟩
theorem vvote_none {w : World} {V : Nat} {g : Option Addr} {v : Vv} (h : Vw w V g v) (hv : v.vote = 0) : Calls Try.prog 54 #[.pointer (some ⟨V, 0, none⟩)] w fun e w' => e = .returned (.tuple #[.int .i64 0, .bool false]) ∧ w = w' := by
  have c1 := h.c1
  rw [hv] at c1
  clear h hv
  go_enter Try.func54, Try.ntmps54
  go_wp2
  go_ret2
  exact ⟨rfl, rfl⟩
theorem vvote_some {w : World} {V : Nat} {g : Option Addr} {v : Vv} (h : Vw w V g v) (hv : 0 < v.vote) (hv2 : v.vote ≤ 1000) : Calls Try.prog 54 #[.pointer (some ⟨V, 0, none⟩)] w fun e w' => e = .returned (.tuple #[.int .i64 ((v.vote : Int) - 1), .bool true]) ∧ w = w' := by
  have c1 := h.c1
  generalize v.vote = n at *
  have q1 : ((n : Int) == 0) = false := by simp; omega
  have q2 : (n == 0) = false := by simp; omega
  clear h
  go_enter Try.func54, Try.ntmps54
  go_wp2
  go_ret2
  exact ⟨rfl, rfl⟩
theorem has_nil (w : World) : Calls Try.prog 32 #[.pointer none] w fun e w' => e = .returned (.agg #[.int .u64 0, .int .i64 (-1)]) ∧ Below w.heap.size w w' := by
  go_enter Try.func32, Try.ntmps32
  go_wp2_with (first
    | (go_at_call 54; refine (vvote_nil _).mono ?_; rintro e w1 ⟨rfl, rfl⟩)
    | (go_at_call 55; refine (vterm_nil _).mono ?_; rintro e w1 ⟨rfl, rfl⟩)
    | fail)
  exact bodyPost_ret (v := .agg #[.int .u64 0, .int .i64 (-1)]) (by simp [results, Try.results32, go_sem]) rfl ⟨rfl, (Below.refl _ _).alloc (Nat.le_refl _) _⟩
theorem has_any {w : World} {V : Nat} {g : Option Addr} {v : Vv} (h : Vw w V g v) (hv2 : v.vote ≤ 1000) : Calls Try.prog 32 #[.pointer (some ⟨V, 0, none⟩)] w fun e w' => e = .returned (.agg v.cells) ∧ Below w.heap.size w w' := by
  obtain ⟨W, hW⟩ : ∃ W, W = w.alloc (.cells #[.int .u64 0, .int .i64 0] 74) := ⟨_, rfl⟩
  have hb : Below w.heap.size w W := by rw [hW]; exact (Below.refl _ _).alloc (Nat.le_refl _) _
  have hT := vterm_any (h.below hb)
  unfold Vv.cells Vv.node
  by_cases hv : v.vote = 0
  · rw [if_pos hv]
    have HV := Lib.hid (vvote_none (h.below hb) hv)
    have HT := Lib.hid hT
    have HW := Lib.hid hW
    generalize v.term = tm at *
    clear h hb hT hv hW hv2
    go_enter Try.func32, Try.ntmps32
    go_wp2_with (first
      | (go_at_call 54; rw [← HW.out]; refine HV.out.mono ?_; rintro e w1 ⟨rfl, rfl⟩; rw [HW.out])
      | (go_at_call 55; rw [← HW.out]; refine HT.out.mono ?_; rintro e w1 ⟨rfl, rfl⟩; rw [HW.out])
      | fail)
    exact bodyPost_ret (v := .agg #[.int .u64 (tm : Int), .int .i64 (-1)]) (by simp [results, Try.results32, go_sem]) rfl ⟨rfl, (Below.refl _ _).alloc (Nat.le_refl _) _⟩
  · rw [if_neg hv]
    have HV := Lib.hid (vvote_some (h.below hb) (by omega) hv2)
    have HT := Lib.hid hT
    have HW := Lib.hid hW
    generalize v.term = tm at *
    obtain ⟨z, hz⟩ : ∃ z, z = (v.vote : Int) - 1 := ⟨_, rfl⟩
    rw [← hz] at HV ⊢
    clear h hb hT hv hW hv2 hz
    go_enter Try.func32, Try.ntmps32
    go_wp2_with (first
      | (go_at_call 54; rw [← HW.out]; refine HV.out.mono ?_; rintro e w1 ⟨rfl, rfl⟩; rw [HW.out])
      | (go_at_call 55; rw [← HW.out]; refine HT.out.mono ?_; rintro e w1 ⟨rfl, rfl⟩; rw [HW.out])
      | fail)
    exact bodyPost_ret (v := .agg #[.int .u64 (tm : Int), .int .i64 z]) (by simp [results, Try.results32, go_sem]) rfl ⟨rfl, (Below.refl _ _).alloc (Nat.le_refl _) _⟩

set_option maxHeartbeats 4000000 in
theorem vtext_any (p : Vv) (w : World) (_ : p.vote ≤ 1000) : Calls Try.prog 84 #[.agg #[.int .u64 (p.term : Int), .int .u64 (p.vote : Int)]] w fun e w' => ∃ A c, e = .returned (.slice A 9 c) ∧ Rd w' w'.heap.size 1 A 9 c (u8s p.text) ∧ Below w.heap.size w w' := by
  obtain ⟨W, hW⟩ : ∃ W, W = w.alloc (.cells #[.int .u64 (p.term : Int), .int .u64 (p.vote : Int)] 85) := ⟨_, rfl⟩
  have r0 : W.heap[w.heap.size]? = some (.cells #[.int .u64 (p.term : Int), .int .u64 (p.vote : Int)] 85 (0, 0)) := by rw [hW]; exact row_here _ _ rfl
  have HBX := Lib.hid (show Below w.heap.size w W by rw [hW]; exact (Below.refl _ _).alloc (Nat.le_refl _) _)
  have hWz : W.heap.size = w.heap.size + 1 := by rw [hW]; simp
  have HW := Lib.hid hW
  clear hW
  go_enter Try.func84, Try.ntmps84
  go_upto_region 1 with (fail)
  rw [← HW.out]
  refine wp_tree W.heap.size (.two [0, 1, 4, 5] 2 6 (.two [] 3 6 (.one [] 6 (.one [] 7 (.fin [8]))) (.one [] 3 (.one [] 7 (.fin [8])))) (.one [] 2 (.one [] 3 (.one [] 7 (.fin [8]))))) (by kernel_rfl) (by kernel_rfl) (fun d _ _ _ _ h => by cases d <;> exact h) fun wd hbd => ?_
  intro q hq
  have d0 := fun z => cellz (j := 0) (hq z) r0 rfl
  have d1 := fun z => cellz (j := 1) (hq z) r0 rfl
  simp only [pickI, Option.toList_some, List.cons_append, List.nil_append, List.getElem?_toArray, List.getElem?_cons_succ, List.getElem?_cons_zero]
  repeat (go_big_quiet_step (fail))
  refine wpQuiet_nil ?_
  clear d0 d1 hq q
  refine ⟨?_, ?_⟩
  · skip
    refine seg_op (by simp only [List.getElem?_toArray, List.getElem?_cons_succ, List.getElem?_cons_zero]; rfl) fun K hK => ?_
    go_simp
    obtain ⟨v1, hv1⟩ : ∃ v, v = wd.alloc (.cells #[.int .u64 (p.term : Int)] 60) := ⟨_, rfl⟩
    rw [← hv1]
    have bv1 : Below wd.heap.size wd v1 := by rw [hv1]; exact (Below.refl _ _).alloc (Nat.le_refl _) _
    have rv1 : Rd v1 v1.heap.size 1 (some ⟨wd.heap.size, 0, none⟩) 1 1 (u64s [p.term]) := by rw [hv1]; exact Rd.lit wd #[.int .u64 (p.term : Int)] 60 rfl (by decide) (by simp)
    have zv1 := hbd.trans (bv1.mono hbd.size)
    refine hK.out _ _ ⟨zv1, ?_⟩
    clear hK K hv1
    intro q hq
    refine wpQuiet_nil ?_
    clear hq q
    refine ⟨?_, ?_⟩
    · skip
      refine seg_op (by simp only [List.getElem?_toArray, List.getElem?_cons_succ, List.getElem?_cons_zero]; rfl) fun K hK => ?_
      go_simp
      refine (put_good none (some ⟨_, 0, none⟩) 0 0 1 1 [] [p.term] 8 _ Rd.nil_ rv1 (by omega) (by omega) (by omega)).mono ?_
      rintro e v2 ⟨y, rfl, own, bv2⟩
      rw [puts_one] at own
      obtain ⟨A1, c1, rfl, qv2⟩ := rd_owns own
      have zv2 := zv1.trans (bv2.mono zv1.size)
      refine hK.out _ _ ⟨zv2, ?_⟩
      clear hK K own
      intro q hq
      refine wpQuiet_nil ?_
      clear hq q
      refine seg_op (by simp only [List.getElem?_toArray, List.getElem?_cons_succ, List.getElem?_cons_zero]; rfl) fun K hK => ?_
      go_simp
      obtain ⟨v3, hv3⟩ : ∃ v, v = v2.alloc (.cells #[.int .u64 (p.vote : Int)] 60) := ⟨_, rfl⟩
      rw [← hv3]
      have bv3 : Below v2.heap.size v2 v3 := by rw [hv3]; exact (Below.refl _ _).alloc (Nat.le_refl _) _
      have rv3 : Rd v3 v3.heap.size 1 (some ⟨v2.heap.size, 0, none⟩) 1 1 (u64s [p.vote]) := by rw [hv3]; exact Rd.lit v2 #[.int .u64 (p.vote : Int)] 60 rfl (by decide) (by simp)
      have zv3 := zv2.trans (bv3.mono zv2.size)
      refine hK.out _ _ ⟨zv3, ?_⟩
      clear hK K hv3
      intro q hq
      refine wpQuiet_nil ?_
      clear hq q
      refine seg_op (by simp only [List.getElem?_toArray, List.getElem?_cons_succ, List.getElem?_cons_zero]; rfl) fun K hK => ?_
      go_simp
      refine (put_good A1 (some ⟨_, 0, none⟩) 8 c1 1 1 (le 8 p.term) [p.vote] 1 _ ((qv2.below bv3).more bv3.size) rv3 (by omega) (by omega) (by omega)).mono ?_
      rintro e v4 ⟨y, rfl, own, bv4⟩
      rw [show le 8 p.term ++ puts 1 [p.vote] = p.text from rfl] at own
      obtain ⟨A2, c2, rfl, qv4⟩ := rd_owns own
      have zv4 := zv3.trans (bv4.mono zv3.size)
      refine hK.out _ _ ⟨zv4, ?_⟩
      clear hK K own
      intro q hq
      simp only [pickI, Option.toList_some, List.cons_append, List.nil_append, List.getElem?_toArray, List.getElem?_cons_succ, List.getElem?_cons_zero]
      repeat (go_big_quiet_step (fail))
      refine wpQuiet_nil ?_
      clear hq q
      go_wp2_with (fail)
      go_ret
      exact ⟨A2, c2, rfl, qv4, (HBX.out.trans (zv4.mono HBX.out.size))⟩
    · skip
      refine seg_op (by simp only [List.getElem?_toArray, List.getElem?_cons_succ, List.getElem?_cons_zero]; rfl) fun K hK => ?_
      go_simp
      obtain ⟨v5, hv5⟩ : ∃ v, v = v1.alloc (.cells #[.int .u64 (p.vote : Int)] 60) := ⟨_, rfl⟩
      rw [← hv5]
      have bv5 : Below v1.heap.size v1 v5 := by rw [hv5]; exact (Below.refl _ _).alloc (Nat.le_refl _) _
      have rv5 : Rd v5 v5.heap.size 1 (some ⟨v1.heap.size, 0, none⟩) 1 1 (u64s [p.vote]) := by rw [hv5]; exact Rd.lit v1 #[.int .u64 (p.vote : Int)] 60 rfl (by decide) (by simp)
      have zv5 := zv1.trans (bv5.mono zv1.size)
      refine hK.out _ _ ⟨zv5, ?_⟩
      clear hK K hv5
      intro q hq
      refine wpQuiet_nil ?_
      clear hq q
      refine seg_op (by simp only [List.getElem?_toArray, List.getElem?_cons_succ, List.getElem?_cons_zero]; rfl) fun K hK => ?_
      go_simp
      refine (put_good none (some ⟨_, 0, none⟩) 0 0 1 1 [] [p.term] 8 _ Rd.nil_ ((rv1.below bv5).more bv5.size) (by omega) (by omega) (by omega)).mono ?_
      rintro e v6 ⟨y, rfl, own, bv6⟩
      rw [puts_one] at own
      obtain ⟨A1, c1, rfl, qv6⟩ := rd_owns own
      have zv6 := zv5.trans (bv6.mono zv5.size)
      refine hK.out _ _ ⟨zv6, ?_⟩
      clear hK K own
      intro q hq
      refine wpQuiet_nil ?_
      clear hq q
      refine seg_op (by simp only [List.getElem?_toArray, List.getElem?_cons_succ, List.getElem?_cons_zero]; rfl) fun K hK => ?_
      go_simp
      refine (put_good A1 (some ⟨_, 0, none⟩) 8 c1 1 1 (le 8 p.term) [p.vote] 1 _ qv6 ((rv5.below bv6).more bv6.size) (by omega) (by omega) (by omega)).mono ?_
      rintro e v7 ⟨y, rfl, own, bv7⟩
      rw [show le 8 p.term ++ puts 1 [p.vote] = p.text from rfl] at own
      obtain ⟨A2, c2, rfl, qv7⟩ := rd_owns own
      have zv7 := zv6.trans (bv7.mono zv6.size)
      refine hK.out _ _ ⟨zv7, ?_⟩
      clear hK K own
      intro q hq
      simp only [pickI, Option.toList_some, List.cons_append, List.nil_append, List.getElem?_toArray, List.getElem?_cons_succ, List.getElem?_cons_zero]
      repeat (go_big_quiet_step (fail))
      refine wpQuiet_nil ?_
      clear hq q
      go_wp2_with (fail)
      go_ret
      exact ⟨A2, c2, rfl, qv7, (HBX.out.trans (zv7.mono HBX.out.size))⟩
  · skip
    refine seg_op (by simp only [List.getElem?_toArray, List.getElem?_cons_succ, List.getElem?_cons_zero]; rfl) fun K hK => ?_
    go_simp
    obtain ⟨v8, hv8⟩ : ∃ v, v = wd.alloc (.cells #[.int .u64 (p.vote : Int)] 60) := ⟨_, rfl⟩
    rw [← hv8]
    have bv8 : Below wd.heap.size wd v8 := by rw [hv8]; exact (Below.refl _ _).alloc (Nat.le_refl _) _
    have rv8 : Rd v8 v8.heap.size 1 (some ⟨wd.heap.size, 0, none⟩) 1 1 (u64s [p.vote]) := by rw [hv8]; exact Rd.lit wd #[.int .u64 (p.vote : Int)] 60 rfl (by decide) (by simp)
    have zv8 := hbd.trans (bv8.mono hbd.size)
    refine hK.out _ _ ⟨zv8, ?_⟩
    clear hK K hv8
    intro q hq
    refine wpQuiet_nil ?_
    clear hq q
    refine seg_op (by simp only [List.getElem?_toArray, List.getElem?_cons_succ, List.getElem?_cons_zero]; rfl) fun K hK => ?_
    go_simp
    obtain ⟨v9, hv9⟩ : ∃ v, v = v8.alloc (.cells #[.int .u64 (p.term : Int)] 60) := ⟨_, rfl⟩
    rw [← hv9]
    have bv9 : Below v8.heap.size v8 v9 := by rw [hv9]; exact (Below.refl _ _).alloc (Nat.le_refl _) _
    have rv9 : Rd v9 v9.heap.size 1 (some ⟨v8.heap.size, 0, none⟩) 1 1 (u64s [p.term]) := by rw [hv9]; exact Rd.lit v8 #[.int .u64 (p.term : Int)] 60 rfl (by decide) (by simp)
    have zv9 := zv8.trans (bv9.mono zv8.size)
    refine hK.out _ _ ⟨zv9, ?_⟩
    clear hK K hv9
    intro q hq
    refine wpQuiet_nil ?_
    clear hq q
    refine seg_op (by simp only [List.getElem?_toArray, List.getElem?_cons_succ, List.getElem?_cons_zero]; rfl) fun K hK => ?_
    go_simp
    refine (put_good none (some ⟨_, 0, none⟩) 0 0 1 1 [] [p.term] 8 _ Rd.nil_ rv9 (by omega) (by omega) (by omega)).mono ?_
    rintro e v10 ⟨y, rfl, own, bv10⟩
    rw [puts_one] at own
    obtain ⟨A1, c1, rfl, qv10⟩ := rd_owns own
    have zv10 := zv9.trans (bv10.mono zv9.size)
    refine hK.out _ _ ⟨zv10, ?_⟩
    clear hK K own
    intro q hq
    refine wpQuiet_nil ?_
    clear hq q
    refine seg_op (by simp only [List.getElem?_toArray, List.getElem?_cons_succ, List.getElem?_cons_zero]; rfl) fun K hK => ?_
    go_simp
    refine (put_good A1 (some ⟨_, 0, none⟩) 8 c1 1 1 (le 8 p.term) [p.vote] 1 _ qv10 ((rv8.below (bv9.trans (bv10.mono bv9.size))).more (bv9.trans (bv10.mono bv9.size)).size) (by omega) (by omega) (by omega)).mono ?_
    rintro e v11 ⟨y, rfl, own, bv11⟩
    rw [show le 8 p.term ++ puts 1 [p.vote] = p.text from rfl] at own
    obtain ⟨A2, c2, rfl, qv11⟩ := rd_owns own
    have zv11 := zv10.trans (bv11.mono zv10.size)
    refine hK.out _ _ ⟨zv11, ?_⟩
    clear hK K own
    intro q hq
    simp only [pickI, Option.toList_some, List.cons_append, List.nil_append, List.getElem?_toArray, List.getElem?_cons_succ, List.getElem?_cons_zero]
    repeat (go_big_quiet_step (fail))
    refine wpQuiet_nil ?_
    clear hq q
    go_wp2_with (fail)
    go_ret
    exact ⟨A2, c2, rfl, qv11, (HBX.out.trans (zv11.mono HBX.out.size))⟩
end Go.Proofs.Yteakdmabdfpiiaa
