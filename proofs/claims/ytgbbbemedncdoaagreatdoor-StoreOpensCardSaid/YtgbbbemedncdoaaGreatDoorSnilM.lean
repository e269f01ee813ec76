/- Why an entry is refused. Marks are told. A store that no call made. -/
import Derived.Test.YtgbbbemedncdoaaGreatDoorScuM
namespace Go.Proofs.YtgbbbemedncdoaaGreatDoor
open Go.RowKit
set_option maxRecDepth 20000
/-- An entry, as far as a store looks at it. -/
structure E16 where
  ix : Nat
  tm : Nat
  st : Nat
  kind : Int
  cl : Nat
  rq : Nat
  f : Nat
  c : Nat
  data : List UInt8
  A : Option Addr
  bl : Nat
  bc : Nat
def e16v (e : E16) : Value := .agg #[.int .u64 (e.ix : Int), .int .u64 (e.tm : Int), .int .u64 (e.st : Int), .int .i64 e.kind, .int .u64 (e.cl : Int), .int .u64 (e.rq : Int), .int .u32 (e.f : Int), .int .u32 (e.c : Int), .string (str e.data), .slice e.A e.bl e.bc]
structure E16.Ok (e : E16) : Prop where
  ix : e.ix < 18446744073709551616
  tm : e.tm < 18446744073709551616
  st : e.st < 18446744073709551616
  kind : -9223372036854775808 ≤ e.kind ∧ e.kind ≤ 9223372036854775807
  cl : e.cl < 18446744073709551616
  rq : e.rq < 18446744073709551616
  f : e.f < 4294967296
  c : e.c < 4294967296
  data : e.data.length ≤ maxLen
/-- Why it can't be applied, but for what marks say. -/
def whyNot (v : Sv) (e : E16) : Int :=
  if e.kind ≠ 1 ∧ e.kind ≠ 2 then 2
  else if e.kind = 1 ∧ e.data.length ≠ 8 * e.c then 2
  else if e.kind = 1 ∧ (¬ (0 < e.c ∧ e.f + e.c ≤ v.n) ∨ 8 < e.c) then 30
  else if Hs v.L v.B e.ix then 41 else 0
def e16cs (e : E16) : List Value := [.int .u64 (e.ix : Int), .int .u64 (e.tm : Int), .int .u64 (e.st : Int), .int .i64 e.kind, .int .u64 (e.cl : Int), .int .u64 (e.rq : Int), .int .u32 (e.f : Int), .int .u32 (e.c : Int), .string (str e.data), .slice e.A e.bl e.bc]
set_option maxHeartbeats 4000000 in
theorem refuses_odd {w : World} {S : Nat} {g T : Option Addr} {bn bs : Option Nat} {v : Sv} (_ : Srow w S g T bn bs v) (e : E16) (_ : e.Ok) (_ : v.n < 4294967296) (_ : v.L < 18446744073709551616) (_ : v.B < 18446744073709551616) (h1 : e.kind ≠ 1) (h2 : e.kind ≠ 2) :
    Calls Tryz.prog 49 #[.pointer (some ⟨S, 0, none⟩), e16v e] w fun z w' => z = .returned (.int .i64 2) ∧ Below w.heap.size w w' := by
  have q1 : (e.kind == 1) = false := by simpa using h1
  have q2 : (e.kind != 2) = true := by simpa using h2
  unfold e16v
  go_enter Tryz.func49, Tryz.ntmps49
  go_wp2
  go_ret
  exact ⟨rfl, (Below.refl _ _).alloc (Nat.le_refl _) _⟩
set_option maxHeartbeats 4000000 in
theorem refuses_noop {w : World} {S : Nat} {g T : Option Addr} {bn bs : Option Nat} {v : Sv} (h : Srow w S g T bn bs v) (e : E16) (he : e.Ok) (_ : v.n < 4294967296) (hL : v.L < 18446744073709551616) (hB : v.B < 18446744073709551616) (h2 : e.kind = 2) :
    Calls Tryz.prog 49 #[.pointer (some ⟨S, 0, none⟩), e16v e] w fun z w' => z = .returned (.int .i64 (if Hs v.L v.B e.ix then 41 else 0)) ∧ Below w.heap.size w w' := by
  have HR := Lib.hid h
  have HH := Lib.hid (fun W => has_any v.L v.B e.ix W hL hB he.ix)
  unfold e16v
  rw [h2]
  go_enter Tryz.func49, Tryz.ntmps49
  go_wp2
  have hN := newR w 47 [.int .u64 (e.ix : Int), .int .u64 (e.tm : Int), .int .u64 (e.st : Int), .int .i64 2, .int .u64 (e.cl : Int), .int .u64 (e.rq : Int), .int .u32 (e.f : Int), .int .u32 (e.c : Int), .string (str e.data), .slice e.A e.bl e.bc]
  have s0 := cell_of_row _ _ 0 _ _ _ hN.2.1.out
  have s3 := cell_of_row _ _ 3 _ _ _ hN.2.1.out
  have s6 := cell_of_row _ _ 6 _ _ _ hN.2.1.out
  have s7 := cell_of_row _ _ 7 _ _ _ hN.2.1.out
  have s8 := cell_of_row _ _ 8 _ _ _ hN.2.1.out
  have hBW := Lib.hid hN.2.2.1
  have hRW := hN.2.2.2.out
  clear hN
  generalize w.alloc _ = W at *
  have s0 : W.cell? ⟨w.heap.size, 0, none⟩ = some (.int .u64 (e.ix : Int)) := s0
  have s3 : W.cell? ⟨w.heap.size, 3, none⟩ = some (.int .i64 2) := s3
  have s6 : W.cell? ⟨w.heap.size, 6, none⟩ = some (.int .u32 (e.f : Int)) := s6
  have s7 : W.cell? ⟨w.heap.size, 7, none⟩ = some (.int .u32 (e.c : Int)) := s7
  have s8 : W.cell? ⟨w.heap.size, 8, none⟩ = some (.string (str e.data)) := s8
  have HR2 := Lib.hid (HR.out.below hBW.out)
  have c3 := HR2.out.c3
  have c4 := HR2.out.c4
  have c5 := HR2.out.c5
  have hSW : S < W.heap.size := HR2.out.lt
  have hRW : w.heap.size < W.heap.size := by omega
  clear HR h
  refine wp_low W.heap.size [([0, 1, 2, 3, 4, 5, 6, 7], 8)] [9, 10, 11, 12, 13, 14, 15, 16, 17] (by kernel_rfl) (by kernel_rfl) (fun d _ _ _ _ h => by cases d <;> exact h) (Nat.le_refl _) fun wd hbd => ?_
  intro q hq
  have e0 := fun z => kept (hq z) s0 hRW
  have e3 := fun z => kept (hq z) s3 hRW
  have e6 := fun z => kept (hq z) s6 hRW
  have e7 := fun z => kept (hq z) s7 hRW
  have e8 := fun z => kept (hq z) s8 hRW
  have d3 := fun z => kept (hq z) c3 hSW
  have d4 := fun z => kept (hq z) c4 hSW
  have d5 := fun z => kept (hq z) c5 hSW
  simp only [pickI, Option.toList_some, List.cons_append, List.nil_append, List.getElem?_toArray, List.getElem?_cons_succ, List.getElem?_cons_zero]
  try go_frame
  go_big_quiet_step (fail)
  go_big_quiet_step (fail)
  go_big_quiet_step (fail)
  go_big_quiet_step (fail)
  go_big_quiet_step (fail)
  go_big_quiet_step (fail)
  go_big_quiet_step (fail)
  go_big_quiet_step (fail)
  refine wpQuiet_nil ?_
  clear hq q e0 e3 e6 e7 e8 d3 d4 d5
  refine seg_op (by simp only [List.getElem?_toArray, List.getElem?_cons_succ, List.getElem?_cons_zero]; rfl) fun K hK => ?_
  go_simp
  refine hK.out _ _ (seg_keep hbd ?_)
  clear hK K
  intro q hq
  have e0 := fun z => kept (hq z) s0 hRW
  have e3 := fun z => kept (hq z) s3 hRW
  have e6 := fun z => kept (hq z) s6 hRW
  have e7 := fun z => kept (hq z) s7 hRW
  have e8 := fun z => kept (hq z) s8 hRW
  have d3 := fun z => kept (hq z) c3 hSW
  have d4 := fun z => kept (hq z) c4 hSW
  have d5 := fun z => kept (hq z) c5 hSW
  simp only [pickI, Option.toList_some, List.cons_append, List.nil_append, List.getElem?_toArray, List.getElem?_cons_succ, List.getElem?_cons_zero]
  try go_frame
  go_big_quiet_step (fail)
  go_big_quiet_step (fail)
  go_big_quiet_step (fail)
  go_big_quiet_step (fail)
  go_big_quiet_step (fail)
  go_big_quiet_step (fail)
  go_big_quiet_step (fail)
  go_big_quiet_step (fail)
  go_big_quiet_step (fail)
  refine wpQuiet_nil ?_
  clear hq q e0 e3 e6 e7 e8 d3 d4 d5
  go_wp2
  have t0 := kept hbd s0 hRW
  have k4 := kept hbd c4 hSW
  have k5 := kept hbd c5 hSW
  have hR6 : w.heap.size < wd.heap.size := Nat.lt_of_lt_of_le hRW hbd.size
  have hS6 : S < wd.heap.size := Nat.lt_of_lt_of_le hSW hbd.size
  have HB6 := Lib.hid (hBW.out.trans (hbd.mono hBW.out.size))
  clear s0 s3 s6 s7 s8 c3 c4 c5 HR2
  refine wp_low wd.heap.size [([0, 1, 2, 3, 4, 5], 6)] [7] (by kernel_rfl) (by kernel_rfl) (fun d _ _ _ _ h => by cases d <;> exact h) (Nat.le_refl _) fun wd hbd => ?_
  intro q hq
  have e0 := fun z => kept (hq z) t0 hR6
  have d4 := fun z => kept (hq z) k4 hS6
  have d5 := fun z => kept (hq z) k5 hS6
  simp only [pickI, Option.toList_some, List.cons_append, List.nil_append, List.getElem?_toArray, List.getElem?_cons_succ, List.getElem?_cons_zero]
  try go_frame
  go_big_quiet_step (fail)
  go_big_quiet_step (fail)
  go_big_quiet_step (fail)
  go_big_quiet_step (fail)
  go_big_quiet_step (fail)
  go_big_quiet_step (fail)
  refine wpQuiet_nil ?_
  clear hq q e0 d4 d5
  refine seg_op (by simp only [List.getElem?_toArray, List.getElem?_cons_succ, List.getElem?_cons_zero]; rfl) fun K hK => ?_
  go_simp
  refine (HH.out _).mono ?_
  rintro e v0 ⟨rfl, bv0⟩
  have zv0 := hbd.trans (bv0.mono hbd.size)
  refine hK.out _ _ (seg_keep zv0 ?_)
  clear hK K
  intro q hq
  have e0 := fun z => kept (hq z) t0 hR6
  have d4 := fun z => kept (hq z) k4 hS6
  have d5 := fun z => kept (hq z) k5 hS6
  simp only [pickI, Option.toList_some, List.cons_append, List.nil_append, List.getElem?_toArray, List.getElem?_cons_succ, List.getElem?_cons_zero]
  try go_frame
  go_big_quiet_step (fail)
  refine wpQuiet_nil ?_
  clear hq q e0 d4 d5
  clear t0 k4 k5
  go_wp2
  all_goals
    go_ret
    exact ⟨by first | rfl | contradiction | (exfalso; simp_all; done) | (rw [if_pos (by assumption)]; rfl) | (rw [if_neg (by assumption)]; rfl), HB6.out.trans (zv0.mono HB6.out.size)⟩
set_option maxHeartbeats 4000000 in
theorem refuses_len {w : World} {S : Nat} {g T : Option Addr} {bn bs : Option Nat} {v : Sv} (_ : Srow w S g T bn bs v) (e : E16) (he : e.Ok) (_ : v.n < 4294967296) (_ : v.L < 18446744073709551616) (_ : v.B < 18446744073709551616) (h1 : e.kind = 1) (hlen : e.data.length ≠ 8 * e.c) :
    Calls Tryz.prog 49 #[.pointer (some ⟨S, 0, none⟩), e16v e] w fun z w' => z = .returned (.int .i64 2) ∧ Below w.heap.size w w' := by
  have hsz : (str e.data).size = e.data.length := List.size_toArray
  have hd := he.data
  have hc := he.c
  have hml : maxLen < 9223372036854775808 := by unfold maxLen; omega
  have w1 : IntKind.u64.wrap ((e.data.length : Nat) : Int) = (e.data.length : Int) := u64w _ (by omega) (by omega)
  have w2 : IntKind.u64.wrap (8 * (e.c : Int)) = 8 * (e.c : Int) := u64w _ (by omega) (by omega)
  have w3 : IntKind.u64.wrap (e.c : Int) = (e.c : Int) := u64w _ (by omega) (by omega)
  have q1 : ((e.data.length : Int) != 8 * (e.c : Int)) = true := by simp; omega
  unfold e16v
  rw [h1]
  go_enter Tryz.func49, Tryz.ntmps49
  go_wp2
  go_ret
  exact ⟨rfl, (Below.refl _ _).alloc (Nat.le_refl _) _⟩
set_option maxHeartbeats 4000000 in
theorem refuses_span {w : World} {S : Nat} {g T : Option Addr} {bn bs : Option Nat} {v : Sv} (h : Srow w S g T bn bs v) (e : E16) (he : e.Ok) (hvn : v.n < 4294967296) (hL : v.L < 18446744073709551616) (hB : v.B < 18446744073709551616) (h1 : e.kind = 1) (hlen : e.data.length = 8 * e.c) (hspan : ¬ (0 < e.c ∧ e.f + e.c ≤ v.n)) :
    Calls Tryz.prog 49 #[.pointer (some ⟨S, 0, none⟩), e16v e] w fun z w' => z = .returned (.int .i64 30) ∧ Below w.heap.size w w' := by
  have HR := Lib.hid h
  have HH := Lib.hid (fun W => has_any v.L v.B e.ix W hL hB he.ix)
  have hsz : (str e.data).size = e.data.length := List.size_toArray
  have hc := he.c
  have HG := Lib.hid (fun W => spgood_any e.f e.c v.n W he.f he.c (by omega))
  rw [show decide (0 < e.c ∧ e.f + e.c ≤ v.n) = false from by simpa using hspan] at HG
  unfold e16v
  rw [h1]
  go_enter Tryz.func49, Tryz.ntmps49
  go_wp2
  have hN := newR w 47 [.int .u64 (e.ix : Int), .int .u64 (e.tm : Int), .int .u64 (e.st : Int), .int .i64 1, .int .u64 (e.cl : Int), .int .u64 (e.rq : Int), .int .u32 (e.f : Int), .int .u32 (e.c : Int), .string (str e.data), .slice e.A e.bl e.bc]
  have s0 := cell_of_row _ _ 0 _ _ _ hN.2.1.out
  have s3 := cell_of_row _ _ 3 _ _ _ hN.2.1.out
  have s6 := cell_of_row _ _ 6 _ _ _ hN.2.1.out
  have s7 := cell_of_row _ _ 7 _ _ _ hN.2.1.out
  have s8 := cell_of_row _ _ 8 _ _ _ hN.2.1.out
  have hBW := Lib.hid hN.2.2.1
  have hRW := hN.2.2.2.out
  clear hN
  generalize w.alloc _ = W at *
  have s0 : W.cell? ⟨w.heap.size, 0, none⟩ = some (.int .u64 (e.ix : Int)) := s0
  have s3 : W.cell? ⟨w.heap.size, 3, none⟩ = some (.int .i64 1) := s3
  have s6 : W.cell? ⟨w.heap.size, 6, none⟩ = some (.int .u32 (e.f : Int)) := s6
  have s7 : W.cell? ⟨w.heap.size, 7, none⟩ = some (.int .u32 (e.c : Int)) := s7
  have s8 : W.cell? ⟨w.heap.size, 8, none⟩ = some (.string (str e.data)) := s8
  have HR2 := Lib.hid (HR.out.below hBW.out)
  have c3 := HR2.out.c3
  have c4 := HR2.out.c4
  have c5 := HR2.out.c5
  have hSW : S < W.heap.size := HR2.out.lt
  have hRW : w.heap.size < W.heap.size := by omega
  clear HR h
  refine wp_low W.heap.size [([0, 1, 2, 3, 4, 5, 6, 7], 8)] [9, 10, 11, 12, 13, 14, 15, 16, 17] (by kernel_rfl) (by kernel_rfl) (fun d _ _ _ _ h => by cases d <;> exact h) (Nat.le_refl _) fun wd hbd => ?_
  intro q hq
  have e0 := fun z => kept (hq z) s0 hRW
  have e3 := fun z => kept (hq z) s3 hRW
  have e6 := fun z => kept (hq z) s6 hRW
  have e7 := fun z => kept (hq z) s7 hRW
  have e8 := fun z => kept (hq z) s8 hRW
  have d3 := fun z => kept (hq z) c3 hSW
  have d4 := fun z => kept (hq z) c4 hSW
  have d5 := fun z => kept (hq z) c5 hSW
  simp only [pickI, Option.toList_some, List.cons_append, List.nil_append, List.getElem?_toArray, List.getElem?_cons_succ, List.getElem?_cons_zero]
  try go_frame
  go_big_quiet_step (fail)
  go_big_quiet_step (fail)
  go_big_quiet_step (fail)
  go_big_quiet_step (fail)
  go_big_quiet_step (fail)
  go_big_quiet_step (fail)
  go_big_quiet_step (fail)
  go_big_quiet_step (fail)
  refine wpQuiet_nil ?_
  clear hq q e0 e3 e6 e7 e8 d3 d4 d5
  refine seg_op (by simp only [List.getElem?_toArray, List.getElem?_cons_succ, List.getElem?_cons_zero]; rfl) fun K hK => ?_
  go_simp
  refine (HG.out _).mono ?_
  rintro e v0 ⟨rfl, bv0⟩
  have zv0 := hbd.trans (bv0.mono hbd.size)
  refine hK.out _ _ (seg_keep zv0 ?_)
  clear hK K
  intro q hq
  have e0 := fun z => kept (hq z) s0 hRW
  have e3 := fun z => kept (hq z) s3 hRW
  have e6 := fun z => kept (hq z) s6 hRW
  have e7 := fun z => kept (hq z) s7 hRW
  have e8 := fun z => kept (hq z) s8 hRW
  have d3 := fun z => kept (hq z) c3 hSW
  have d4 := fun z => kept (hq z) c4 hSW
  have d5 := fun z => kept (hq z) c5 hSW
  simp only [pickI, Option.toList_some, List.cons_append, List.nil_append, List.getElem?_toArray, List.getElem?_cons_succ, List.getElem?_cons_zero]
  try go_frame
  go_big_quiet_step (fail)
  go_big_quiet_step (fail)
  go_big_quiet_step (fail)
  go_big_quiet_step (fail)
  go_big_quiet_step (fail)
  go_big_quiet_step (fail)
  go_big_quiet_step (fail)
  go_big_quiet_step (fail)
  go_big_quiet_step (fail)
  refine wpQuiet_nil ?_
  clear hq q e0 e3 e6 e7 e8 d3 d4 d5
  go_wp2
  go_ret
  exact ⟨rfl, hBW.out.trans (zv0.mono hBW.out.size)⟩
set_option maxHeartbeats 4000000 in
theorem refuses_many {w : World} {S : Nat} {g T : Option Addr} {bn bs : Option Nat} {v : Sv} (h : Srow w S g T bn bs v) (e : E16) (he : e.Ok) (hvn : v.n < 4294967296) (hL : v.L < 18446744073709551616) (hB : v.B < 18446744073709551616) (h1 : e.kind = 1) (hlen : e.data.length = 8 * e.c) (hspan : 0 < e.c ∧ e.f + e.c ≤ v.n) (h8 : 8 < e.c) :
    Calls Tryz.prog 49 #[.pointer (some ⟨S, 0, none⟩), e16v e] w fun z w' => z = .returned (.int .i64 30) ∧ Below w.heap.size w w' := by
  have HR := Lib.hid h
  have HH := Lib.hid (fun W => has_any v.L v.B e.ix W hL hB he.ix)
  have hsz : (str e.data).size = e.data.length := List.size_toArray
  have hc := he.c
  have HG := Lib.hid (fun W => spgood_any e.f e.c v.n W he.f he.c (by omega))
  rw [show decide (0 < e.c ∧ e.f + e.c ≤ v.n) = true from by simpa using hspan] at HG
  unfold e16v
  rw [h1]
  go_enter Tryz.func49, Tryz.ntmps49
  go_wp2
  have hN := newR w 47 [.int .u64 (e.ix : Int), .int .u64 (e.tm : Int), .int .u64 (e.st : Int), .int .i64 1, .int .u64 (e.cl : Int), .int .u64 (e.rq : Int), .int .u32 (e.f : Int), .int .u32 (e.c : Int), .string (str e.data), .slice e.A e.bl e.bc]
  have s0 := cell_of_row _ _ 0 _ _ _ hN.2.1.out
  have s3 := cell_of_row _ _ 3 _ _ _ hN.2.1.out
  have s6 := cell_of_row _ _ 6 _ _ _ hN.2.1.out
  have s7 := cell_of_row _ _ 7 _ _ _ hN.2.1.out
  have s8 := cell_of_row _ _ 8 _ _ _ hN.2.1.out
  have hBW := Lib.hid hN.2.2.1
  have hRW := hN.2.2.2.out
  clear hN
  generalize w.alloc _ = W at *
  have s0 : W.cell? ⟨w.heap.size, 0, none⟩ = some (.int .u64 (e.ix : Int)) := s0
  have s3 : W.cell? ⟨w.heap.size, 3, none⟩ = some (.int .i64 1) := s3
  have s6 : W.cell? ⟨w.heap.size, 6, none⟩ = some (.int .u32 (e.f : Int)) := s6
  have s7 : W.cell? ⟨w.heap.size, 7, none⟩ = some (.int .u32 (e.c : Int)) := s7
  have s8 : W.cell? ⟨w.heap.size, 8, none⟩ = some (.string (str e.data)) := s8
  have HR2 := Lib.hid (HR.out.below hBW.out)
  have c3 := HR2.out.c3
  have c4 := HR2.out.c4
  have c5 := HR2.out.c5
  have hSW : S < W.heap.size := HR2.out.lt
  have hRW : w.heap.size < W.heap.size := by omega
  clear HR h
  refine wp_low W.heap.size [([0, 1, 2, 3, 4, 5, 6, 7], 8)] [9, 10, 11, 12, 13, 14, 15, 16, 17] (by kernel_rfl) (by kernel_rfl) (fun d _ _ _ _ h => by cases d <;> exact h) (Nat.le_refl _) fun wd hbd => ?_
  intro q hq
  have e0 := fun z => kept (hq z) s0 hRW
  have e3 := fun z => kept (hq z) s3 hRW
  have e6 := fun z => kept (hq z) s6 hRW
  have e7 := fun z => kept (hq z) s7 hRW
  have e8 := fun z => kept (hq z) s8 hRW
  have d3 := fun z => kept (hq z) c3 hSW
  have d4 := fun z => kept (hq z) c4 hSW
  have d5 := fun z => kept (hq z) c5 hSW
  simp only [pickI, Option.toList_some, List.cons_append, List.nil_append, List.getElem?_toArray, List.getElem?_cons_succ, List.getElem?_cons_zero]
  try go_frame
  go_big_quiet_step (fail)
  go_big_quiet_step (fail)
  go_big_quiet_step (fail)
  go_big_quiet_step (fail)
  go_big_quiet_step (fail)
  go_big_quiet_step (fail)
  go_big_quiet_step (fail)
  go_big_quiet_step (fail)
  refine wpQuiet_nil ?_
  clear hq q e0 e3 e6 e7 e8 d3 d4 d5
  refine seg_op (by simp only [List.getElem?_toArray, List.getElem?_cons_succ, List.getElem?_cons_zero]; rfl) fun K hK => ?_
  go_simp
  refine (HG.out _).mono ?_
  rintro e v0 ⟨rfl, bv0⟩
  have zv0 := hbd.trans (bv0.mono hbd.size)
  refine hK.out _ _ (seg_keep zv0 ?_)
  clear hK K
  intro q hq
  have e0 := fun z => kept (hq z) s0 hRW
  have e3 := fun z => kept (hq z) s3 hRW
  have e6 := fun z => kept (hq z) s6 hRW
  have e7 := fun z => kept (hq z) s7 hRW
  have e8 := fun z => kept (hq z) s8 hRW
  have d3 := fun z => kept (hq z) c3 hSW
  have d4 := fun z => kept (hq z) c4 hSW
  have d5 := fun z => kept (hq z) c5 hSW
  simp only [pickI, Option.toList_some, List.cons_append, List.nil_append, List.getElem?_toArray, List.getElem?_cons_succ, List.getElem?_cons_zero]
  try go_frame
  go_big_quiet_step (fail)
  go_big_quiet_step (fail)
  go_big_quiet_step (fail)
  go_big_quiet_step (fail)
  go_big_quiet_step (fail)
  go_big_quiet_step (fail)
  go_big_quiet_step (fail)
  go_big_quiet_step (fail)
  go_big_quiet_step (fail)
  refine wpQuiet_nil ?_
  clear hq q e0 e3 e6 e7 e8 d3 d4 d5
  go_wp2
  go_ret
  exact ⟨rfl, hBW.out.trans (zv0.mono hBW.out.size)⟩
set_option maxHeartbeats 4000000 in
theorem refuses_write {w : World} {S : Nat} {g T : Option Addr} {bn bs : Option Nat} {v : Sv} (h : Srow w S g T bn bs v) (e : E16) (he : e.Ok) (hvn : v.n < 4294967296) (hL : v.L < 18446744073709551616) (hB : v.B < 18446744073709551616) (h1 : e.kind = 1) (hlen : e.data.length = 8 * e.c) (hspan : 0 < e.c ∧ e.f + e.c ≤ v.n) (h8 : e.c ≤ 8) :
    Calls Tryz.prog 49 #[.pointer (some ⟨S, 0, none⟩), e16v e] w fun z w' => z = .returned (.int .i64 (if Hs v.L v.B e.ix then 41 else 0)) ∧ Below w.heap.size w w' := by
  have HR := Lib.hid h
  have HH := Lib.hid (fun W => has_any v.L v.B e.ix W hL hB he.ix)
  have hsz : (str e.data).size = e.data.length := List.size_toArray
  have hc := he.c
  have HG := Lib.hid (fun W => spgood_any e.f e.c v.n W he.f he.c (by omega))
  rw [show decide (0 < e.c ∧ e.f + e.c ≤ v.n) = true from by simpa using hspan] at HG
  unfold e16v
  rw [h1]
  go_enter Tryz.func49, Tryz.ntmps49
  go_wp2
  have hN := newR w 47 [.int .u64 (e.ix : Int), .int .u64 (e.tm : Int), .int .u64 (e.st : Int), .int .i64 1, .int .u64 (e.cl : Int), .int .u64 (e.rq : Int), .int .u32 (e.f : Int), .int .u32 (e.c : Int), .string (str e.data), .slice e.A e.bl e.bc]
  have s0 := cell_of_row _ _ 0 _ _ _ hN.2.1.out
  have s3 := cell_of_row _ _ 3 _ _ _ hN.2.1.out
  have s6 := cell_of_row _ _ 6 _ _ _ hN.2.1.out
  have s7 := cell_of_row _ _ 7 _ _ _ hN.2.1.out
  have s8 := cell_of_row _ _ 8 _ _ _ hN.2.1.out
  have hBW := Lib.hid hN.2.2.1
  have hRW := hN.2.2.2.out
  clear hN
  generalize w.alloc _ = W at *
  have s0 : W.cell? ⟨w.heap.size, 0, none⟩ = some (.int .u64 (e.ix : Int)) := s0
  have s3 : W.cell? ⟨w.heap.size, 3, none⟩ = some (.int .i64 1) := s3
  have s6 : W.cell? ⟨w.heap.size, 6, none⟩ = some (.int .u32 (e.f : Int)) := s6
  have s7 : W.cell? ⟨w.heap.size, 7, none⟩ = some (.int .u32 (e.c : Int)) := s7
  have s8 : W.cell? ⟨w.heap.size, 8, none⟩ = some (.string (str e.data)) := s8
  have HR2 := Lib.hid (HR.out.below hBW.out)
  have c3 := HR2.out.c3
  have c4 := HR2.out.c4
  have c5 := HR2.out.c5
  have hSW : S < W.heap.size := HR2.out.lt
  have hRW : w.heap.size < W.heap.size := by omega
  clear HR h
  refine wp_low W.heap.size [([0, 1, 2, 3, 4, 5, 6, 7], 8)] [9, 10, 11, 12, 13, 14, 15, 16, 17] (by kernel_rfl) (by kernel_rfl) (fun d _ _ _ _ h => by cases d <;> exact h) (Nat.le_refl _) fun wd hbd => ?_
  intro q hq
  have e0 := fun z => kept (hq z) s0 hRW
  have e3 := fun z => kept (hq z) s3 hRW
  have e6 := fun z => kept (hq z) s6 hRW
  have e7 := fun z => kept (hq z) s7 hRW
  have e8 := fun z => kept (hq z) s8 hRW
  have d3 := fun z => kept (hq z) c3 hSW
  have d4 := fun z => kept (hq z) c4 hSW
  have d5 := fun z => kept (hq z) c5 hSW
  simp only [pickI, Option.toList_some, List.cons_append, List.nil_append, List.getElem?_toArray, List.getElem?_cons_succ, List.getElem?_cons_zero]
  try go_frame
  go_big_quiet_step (fail)
  go_big_quiet_step (fail)
  go_big_quiet_step (fail)
  go_big_quiet_step (fail)
  go_big_quiet_step (fail)
  go_big_quiet_step (fail)
  go_big_quiet_step (fail)
  go_big_quiet_step (fail)
  refine wpQuiet_nil ?_
  clear hq q e0 e3 e6 e7 e8 d3 d4 d5
  refine seg_op (by simp only [List.getElem?_toArray, List.getElem?_cons_succ, List.getElem?_cons_zero]; rfl) fun K hK => ?_
  go_simp
  refine (HG.out _).mono ?_
  rintro e v0 ⟨rfl, bv0⟩
  have zv0 := hbd.trans (bv0.mono hbd.size)
  refine hK.out _ _ (seg_keep zv0 ?_)
  clear hK K
  intro q hq
  have e0 := fun z => kept (hq z) s0 hRW
  have e3 := fun z => kept (hq z) s3 hRW
  have e6 := fun z => kept (hq z) s6 hRW
  have e7 := fun z => kept (hq z) s7 hRW
  have e8 := fun z => kept (hq z) s8 hRW
  have d3 := fun z => kept (hq z) c3 hSW
  have d4 := fun z => kept (hq z) c4 hSW
  have d5 := fun z => kept (hq z) c5 hSW
  simp only [pickI, Option.toList_some, List.cons_append, List.nil_append, List.getElem?_toArray, List.getElem?_cons_succ, List.getElem?_cons_zero]
  try go_frame
  go_big_quiet_step (fail)
  go_big_quiet_step (fail)
  go_big_quiet_step (fail)
  go_big_quiet_step (fail)
  go_big_quiet_step (fail)
  go_big_quiet_step (fail)
  go_big_quiet_step (fail)
  go_big_quiet_step (fail)
  go_big_quiet_step (fail)
  refine wpQuiet_nil ?_
  clear hq q e0 e3 e6 e7 e8 d3 d4 d5
  go_wp2
  have t0 := kept zv0 s0 hRW
  have k4 := kept zv0 c4 hSW
  have k5 := kept zv0 c5 hSW
  have hR6 : w.heap.size < v0.heap.size := Nat.lt_of_lt_of_le hRW zv0.size
  have hS6 : S < v0.heap.size := Nat.lt_of_lt_of_le hSW zv0.size
  have HB6 := Lib.hid (hBW.out.trans (zv0.mono hBW.out.size))
  clear s0 s3 s6 s7 s8 c3 c4 c5 HR2
  refine wp_low v0.heap.size [([0, 1, 2, 3, 4, 5], 6)] [7] (by kernel_rfl) (by kernel_rfl) (fun d _ _ _ _ h => by cases d <;> exact h) (Nat.le_refl _) fun wd hbd => ?_
  intro q hq
  have e0 := fun z => kept (hq z) t0 hR6
  have d4 := fun z => kept (hq z) k4 hS6
  have d5 := fun z => kept (hq z) k5 hS6
  simp only [pickI, Option.toList_some, List.cons_append, List.nil_append, List.getElem?_toArray, List.getElem?_cons_succ, List.getElem?_cons_zero]
  try go_frame
  go_big_quiet_step (fail)
  go_big_quiet_step (fail)
  go_big_quiet_step (fail)
  go_big_quiet_step (fail)
  go_big_quiet_step (fail)
  go_big_quiet_step (fail)
  refine wpQuiet_nil ?_
  clear hq q e0 d4 d5
  refine seg_op (by simp only [List.getElem?_toArray, List.getElem?_cons_succ, List.getElem?_cons_zero]; rfl) fun K hK => ?_
  go_simp
  refine (HH.out _).mono ?_
  rintro e v0 ⟨rfl, bv0⟩
  have zv0 := hbd.trans (bv0.mono hbd.size)
  refine hK.out _ _ (seg_keep zv0 ?_)
  clear hK K
  intro q hq
  have e0 := fun z => kept (hq z) t0 hR6
  have d4 := fun z => kept (hq z) k4 hS6
  have d5 := fun z => kept (hq z) k5 hS6
  simp only [pickI, Option.toList_some, List.cons_append, List.nil_append, List.getElem?_toArray, List.getElem?_cons_succ, List.getElem?_cons_zero]
  try go_frame
  go_big_quiet_step (fail)
  refine wpQuiet_nil ?_
  clear hq q e0 d4 d5
  clear t0 k4 k5
  go_wp2
  all_goals
    go_ret
    exact ⟨by first | rfl | contradiction | (exfalso; simp_all; done) | (rw [if_pos (by assumption)]; rfl) | (rw [if_neg (by assumption)]; rfl), HB6.out.trans (zv0.mono HB6.out.size)⟩
set_option maxHeartbeats 4000000 in
theorem refuses_any {w : World} {S : Nat} {g T : Option Addr} {bn bs : Option Nat} {v : Sv} (h : Srow w S g T bn bs v) (e : E16) (he : e.Ok) (hvn : v.n < 4294967296) (hL : v.L < 18446744073709551616) (hB : v.B < 18446744073709551616)  :
    Calls Tryz.prog 49 #[.pointer (some ⟨S, 0, none⟩), e16v e] w fun z w' => z = .returned (.int .i64 (whyNot v e)) ∧ Below w.heap.size w w' := by
  unfold whyNot
  by_cases h1 : e.kind = 1
  · rw [if_neg (by omega)]
    by_cases hlen : e.data.length = 8 * e.c
    · rw [if_neg (by omega)]
      by_cases hspan : 0 < e.c ∧ e.f + e.c ≤ v.n
      · by_cases h8 : 8 < e.c
        · rw [if_pos ⟨h1, .inr h8⟩]; exact refuses_many h e he hvn hL hB h1 hlen hspan h8
        · rw [if_neg (by rintro ⟨_, h | h⟩; exact h hspan; exact h8 h)]; exact refuses_write h e he hvn hL hB h1 hlen hspan (by omega)
      · rw [if_pos ⟨h1, .inl hspan⟩]; exact refuses_span h e he hvn hL hB h1 hlen hspan
    · rw [if_pos ⟨h1, hlen⟩]; exact refuses_len h e he hvn hL hB h1 hlen
  · by_cases h2 : e.kind = 2
    · rw [if_neg (by omega), if_neg (by omega), if_neg (by omega)]; exact refuses_noop h e he hvn hL hB h2
    · rw [if_pos ⟨h1, h2⟩]; exact refuses_odd h e he hvn hL hB h1 h2

end Go.Proofs.YtgbbbemedncdoaaGreatDoor

namespace Go.Proofs.YtgbbbemedncdoaaGreatDoor
open Go.RowKit
set_option maxRecDepth 20000
theorem smarks_nil (w : World) : Calls Tryz.prog 28 #[.pointer none] w fun e w' => e = .returned (.agg #[.int .u64 0, .int .u64 0]) ∧ Below w.heap.size w w' := by
  go_enter Tryz.func28, Tryz.ntmps28
  go_wp2
  refine bodyPost_ret (v := .agg #[.int .u64 0, .int .u64 0]) (by simp [results, Tryz.results28, go_sem]) rfl ⟨rfl, ?_⟩
  exact (Below.refl _ _).alloc (Nat.le_refl _) _
theorem smarks_any {w : World} {S : Nat} {g T : Option Addr} {bn bs : Option Nat} {v : Sv} (h : Srow w S g T bn bs v) : Calls Tryz.prog 28 #[.pointer (some ⟨S, 0, none⟩)] w fun e w' => e = .returned (.agg #[.int .u64 (v.L : Int), .int .u64 (v.B : Int)]) ∧ Below w.heap.size w w' := by
  have hb := (Below.refl w.heap.size w).alloc (Nat.le_refl _) (.cells #[.int .u64 0, .int .u64 0] 36)
  have c4 := (h.below hb).c4
  have c5 := (h.below hb).c5
  go_enter Tryz.func28, Tryz.ntmps28
  go_wp2
  refine bodyPost_ret (v := .agg #[.int .u64 (v.L : Int), .int .u64 (v.B : Int)]) (by simp [results, Tryz.results28, go_sem]) rfl ⟨rfl, ?_⟩
  exact (Below.refl _ _).alloc (Nat.le_refl _) _
end Go.Proofs.YtgbbbemedncdoaaGreatDoor

namespace Go.Proofs.YtgbbbemedncdoaaGreatDoor
open Go.RowKit
set_option maxRecDepth 20000
theorem ssave_nil (w : World) : Calls Tryz.prog 26 #[.pointer none] w fun e w' => e = .returned (.int .i64 1) ∧ Below w.heap.size w w' := by
  go_enter Tryz.func26, Tryz.ntmps26
  go_wp2_with (go_at_call 48; refine (sopen_nil _).mono ?_; rintro e w1 ⟨rfl, rfl⟩)
  go_ret
  exact ⟨rfl, Below.refl _ _⟩
theorem ssave_bare {w : World} {S : Nat} {T : Option Addr} {bn bs : Option Nat} {v : Sv} (h : Srow w S none T bn bs v) : Calls Tryz.prog 26 #[.pointer (some ⟨S, 0, none⟩)] w fun e w' => e = .returned (.int .i64 1) ∧ Below w.heap.size w w' := by
  go_enter Tryz.func26, Tryz.ntmps26
  go_wp2_with (go_at_call 48; refine (sopen_bare h).mono ?_; rintro e w1 ⟨rfl, rfl⟩)
  go_ret
  exact ⟨rfl, Below.refl _ _⟩
set_option maxHeartbeats 2000000 in
theorem sapply_nil (e0 : E16) (w : World) : Calls Tryz.prog 20 #[.pointer none, e16v e0] w fun e w' => e = .returned (.int .i64 1) ∧ Below w.heap.size w w' := by
  unfold e16v
  go_enter Tryz.func20, Tryz.ntmps20
  go_wp2_with (go_at_call 48; refine (sopen_nil _).mono ?_; rintro e w1 ⟨rfl, rfl⟩)
  go_ret
  exact ⟨rfl, (Below.refl _ _).alloc (Nat.le_refl _) _⟩
set_option maxHeartbeats 2000000 in
theorem sapply_bare {w : World} {S : Nat} {T : Option Addr} {bn bs : Option Nat} {v : Sv} (h : Srow w S none T bn bs v) (e0 : E16) : Calls Tryz.prog 20 #[.pointer (some ⟨S, 0, none⟩), e16v e0] w fun e w' => e = .returned (.int .i64 1) ∧ Below w.heap.size w w' := by
  have HR := Lib.hid h
  have HA := Lib.hid (fun o => (Below.refl w.heap.size w).alloc (Nat.le_refl _) o)
  unfold e16v
  go_enter Tryz.func20, Tryz.ntmps20
  go_wp2_with (go_at_call 48; refine (sopen_bare (HR.out.below (HA.out _))).mono ?_; rintro e w1 ⟨rfl, rfl⟩)
  go_ret
  exact ⟨rfl, HA.out _⟩
set_option maxHeartbeats 2000000 in
theorem sReads_bare {w : World} {S : Nat} {T : Option Addr} {bn bs : Option Nat} {v : Sv} (h : Srow w S none T bn bs v) (f c : Nat) : Calls Tryz.prog 25 #[.pointer (some ⟨S, 0, none⟩), spanv f c] w fun e w' => e = .returned (.tuple #[.string ⟨#[]⟩, .int .i64 1]) ∧ Below w.heap.size w w' := by
  have HR := Lib.hid h
  have HA := Lib.hid (fun o => (Below.refl w.heap.size w).alloc (Nat.le_refl _) o)
  unfold spanv
  go_enter Tryz.func25, Tryz.ntmps25
  go_wp2_with (go_at_call 48; refine (sopen_bare (HR.out.below (HA.out _))).mono ?_; rintro e w1 ⟨rfl, rfl⟩)
  go_ret2
  exact ⟨rfl, HA.out _⟩
set_option maxHeartbeats 2000000 in
theorem simport_nil (i : Im) (w : World) : Calls Tryz.prog 27 #[.pointer none, imv i] w fun e w' => e = .returned (.int .i64 1) ∧ Below w.heap.size w w' := by
  go_enter Tryz.func27, Tryz.ntmps27
  go_wp2_with (first
    | (refine wpL_rbox (cs := icells i) rfl (.tmp 1) rfl rfl ?_; intro W b hN; obtain ⟨hb, hr, hl1, hz⟩ := hN)
    | (go_at_call 48; refine (sopen_nil _).mono ?_; rintro e w1 ⟨rfl, rfl⟩)
    | fail)
  go_ret
  exact ⟨rfl, hl1⟩
set_option maxHeartbeats 2000000 in
theorem simport_bare {w : World} {S : Nat} {T : Option Addr} {bn bs : Option Nat} {v : Sv} (h : Srow w S none T bn bs v) (i : Im) : Calls Tryz.prog 27 #[.pointer (some ⟨S, 0, none⟩), imv i] w fun e w' => e = .returned (.int .i64 1) ∧ Below w.heap.size w w' := by
  have HR := Lib.hid h
  go_enter Tryz.func27, Tryz.ntmps27
  go_wp2_with (first
    | (refine wpL_rbox (cs := icells i) rfl (.tmp 1) rfl rfl ?_; intro W b hN; obtain ⟨hb, hr, hl1, hz⟩ := hN)
    | (go_at_call 48; refine (sopen_bare (HR.out.below hl1)).mono ?_; rintro e w1 ⟨rfl, rfl⟩)
    | fail)
  go_ret
  exact ⟨rfl, hl1⟩
set_option maxHeartbeats 2000000 in
theorem simage_nil (w : World) : Calls Tryz.prog 17 #[.pointer none] w fun e w' => e = .returned (.tuple #[imv I0, .int .i64 1]) ∧ Below w.heap.size w w' := by
  go_enter Tryz.func17, Tryz.ntmps17
  go_wp2_with (first
    | (refine imA.wpNew rfl rfl ?_; intro W b hN; obtain ⟨hb, hr, hl1, hz⟩ := hN)
    | (refine imA.wpBuild rfl rfl ?_)
    | (go_at_call 23; refine (sblocks_nil _).mono ?_; rintro e w1 ⟨rfl, rfl⟩)
    | (go_at_call 25; refine (sReads_nil 0 0 _).mono ?_; rintro e w1 ⟨rfl, hb1⟩
       have hbW : b < W.heap.size := by have := hz.out; omega
       have hr1 := below_row hb1 hr.out hbW
       have hl2 := hl1.trans (hb1.mono hl1.size)
       have hbw : w.heap.size ≤ b := by have := hb.out; omega)
    | (refine imA.wpStore (i := I0) (j := I0) rfl (.tmp 2) (.tmp 16) rfl rfl rfl hr1 rfl rfl ?_; intro W2 hr2 hg2 hz2)
    | fail)
  refine bodyPost_ret (results_cell_tmp (fn := Tryz.f17) rfl _ b 43 _ (0, 0) _ rfl hr2.out imA.und rfl (by rw [imA.size]; simp [icells_19 (i := I0) rfl])) rfl ⟨rfl, hl2.grown hg2 hl2.size (fun k e => by cases e; exact hbw)⟩
set_option maxHeartbeats 2000000 in
theorem simage_bare {w : World} {S : Nat} {T : Option Addr} {bn bs : Option Nat} {v : Sv} (h : Srow w S none T bn bs v) : Calls Tryz.prog 17 #[.pointer (some ⟨S, 0, none⟩)] w fun e w' => e = .returned (.tuple #[imv I0, .int .i64 1]) ∧ Below w.heap.size w w' := by
  have HR := Lib.hid h
  go_enter Tryz.func17, Tryz.ntmps17
  go_wp2_with (first
    | (refine imA.wpNew rfl rfl ?_; intro W b hN; obtain ⟨hb, hr, hl1, hz⟩ := hN)
    | (refine imA.wpBuild rfl rfl ?_)
    | (go_at_call 23; refine (sblocks_any (HR.out.below hl1)).mono ?_; rintro e w1 ⟨rfl, rfl⟩)
    | (go_at_call 25; refine (sReads_bare (HR.out.below hl1) 0 v.n).mono ?_; rintro e w1 ⟨rfl, hb1⟩
       have hbW : b < W.heap.size := by have := hz.out; omega
       have hr1 := below_row hb1 hr.out hbW
       have hl2 := hl1.trans (hb1.mono hl1.size)
       have hbw : w.heap.size ≤ b := by have := hb.out; omega)
    | (refine imA.wpStore (i := I0) (j := I0) rfl (.tmp 2) (.tmp 16) rfl rfl rfl hr1 rfl rfl ?_; intro W2 hr2 hg2 hz2)
    | fail)
  refine bodyPost_ret (results_cell_tmp (fn := Tryz.f17) rfl _ b 43 _ (0, 0) _ rfl hr2.out imA.und rfl (by rw [imA.size]; simp [icells_19 (i := I0) rfl])) rfl ⟨rfl, hl2.grown hg2 hl2.size (fun k e => by cases e; exact hbw)⟩
end Go.Proofs.YtgbbbemedncdoaaGreatDoor
