/- Why an entry is refused. Slices of structs as arguments of a law, read as data, whatever the structs are. A call of the law's, read as data. Whether calls are few and small: Light, light. Rows of a call: made, stored, laid in a slice. -/
import Derived.Test.YtpalmobmabkadaaGreatDoorScuM
import Derived.Test.YtpalmobmabkadaaGreatDoorTwincM
import Derived.Test.YtpalmobmabkadaaGreatDoorDmathM
import Derived.Test.YtpalmobmabkadaaGreatDoorStaM
import Derived.Test.YtpalmobmabkadaaGreatDoorDeviZM
namespace Go.Proofs.YtpalmobmabkadaaGreatDoor
open Go.RowKit
set_option maxRecDepth 20000
/-- An entry, as far as a store looks at it. -/
structure E16 where
  ix : Nat
  tm : Nat
  st : Nat
  kind : Int
  cl : Nat
  rq : Nat
  f : Nat
  c : Nat
  data : List UInt8
  A : Option Addr
  bl : Nat
  bc : Nat
def e16v (e : E16) : Value := .agg #[.int .u64 (e.ix : Int), .int .u64 (e.tm : Int), .int .u64 (e.st : Int), .int .i64 e.kind, .int .u64 (e.cl : Int), .int .u64 (e.rq : Int), .int .u32 (e.f : Int), .int .u32 (e.c : Int), .string (str e.data), .slice e.A e.bl e.bc]
structure E16.Ok (e : E16) : Prop where
  ix : e.ix < 18446744073709551616
  tm : e.tm < 18446744073709551616
  st : e.st < 18446744073709551616
  kind : -9223372036854775808 ≤ e.kind ∧ e.kind ≤ 9223372036854775807
  cl : e.cl < 18446744073709551616
  rq : e.rq < 18446744073709551616
  f : e.f < 4294967296
  c : e.c < 4294967296
  data : e.data.length ≤ maxLen
/-- Why it can't be applied, but for what marks say. -/
def whyNot (v : Sv) (e : E16) : Int :=
  if e.kind ≠ 1 ∧ e.kind ≠ 2 then 2
  else if e.kind = 1 ∧ e.data.length ≠ 8 * e.c then 2
  else if e.kind = 1 ∧ (¬ (0 < e.c ∧ e.f + e.c ≤ v.n) ∨ 8 < e.c) then 30
  else if Hs v.L v.B e.ix then 41 else 0
def e16cs (e : E16) : List Value := [.int .u64 (e.ix : Int), .int .u64 (e.tm : Int), .int .u64 (e.st : Int), .int .i64 e.kind, .int .u64 (e.cl : Int), .int .u64 (e.rq : Int), .int .u32 (e.f : Int), .int .u32 (e.c : Int), .string (str e.data), .slice e.A e.bl e.bc]
set_option maxHeartbeats 4000000 in
theorem refuses_odd {w : World} {S : Nat} {g T : Option Addr} {bn bs : Option Nat} {v : Sv} (_ : Srow w S g T bn bs v) (e : E16) (_ : e.Ok) (_ : v.n < 4294967296) (_ : v.L < 18446744073709551616) (_ : v.B < 18446744073709551616) (h1 : e.kind ≠ 1) (h2 : e.kind ≠ 2) :
    Calls Tryz.prog 49 #[.pointer (some ⟨S, 0, none⟩), e16v e] w fun z w' => z = .returned (.int .i64 2) ∧ Below w.heap.size w w' := by
  have q1 : (e.kind == 1) = false := by simpa using h1
  have q2 : (e.kind != 2) = true := by simpa using h2
  unfold e16v
  go_enter Tryz.func49, Tryz.ntmps49
  go_wp2
  go_ret
  exact ⟨rfl, (Below.refl _ _).alloc (Nat.le_refl _) _⟩
set_option maxHeartbeats 4000000 in
theorem refuses_noop {w : World} {S : Nat} {g T : Option Addr} {bn bs : Option Nat} {v : Sv} (h : Srow w S g T bn bs v) (e : E16) (he : e.Ok) (_ : v.n < 4294967296) (hL : v.L < 18446744073709551616) (hB : v.B < 18446744073709551616) (h2 : e.kind = 2) :
    Calls Tryz.prog 49 #[.pointer (some ⟨S, 0, none⟩), e16v e] w fun z w' => z = .returned (.int .i64 (if Hs v.L v.B e.ix then 41 else 0)) ∧ Below w.heap.size w w' := by
  have HR := Lib.hid h
  have HH := Lib.hid (fun W => has_any v.L v.B e.ix W hL hB he.ix)
  unfold e16v
  rw [h2]
  go_enter Tryz.func49, Tryz.ntmps49
  go_wp2
  have hN := newR w 47 [.int .u64 (e.ix : Int), .int .u64 (e.tm : Int), .int .u64 (e.st : Int), .int .i64 2, .int .u64 (e.cl : Int), .int .u64 (e.rq : Int), .int .u32 (e.f : Int), .int .u32 (e.c : Int), .string (str e.data), .slice e.A e.bl e.bc]
  have s0 := cell_of_row _ _ 0 _ _ _ hN.2.1.out
  have s3 := cell_of_row _ _ 3 _ _ _ hN.2.1.out
  have s6 := cell_of_row _ _ 6 _ _ _ hN.2.1.out
  have s7 := cell_of_row _ _ 7 _ _ _ hN.2.1.out
  have s8 := cell_of_row _ _ 8 _ _ _ hN.2.1.out
  have hBW := Lib.hid hN.2.2.1
  have hRW := hN.2.2.2.out
  clear hN
  generalize w.alloc _ = W at *
  have s0 : W.cell? ⟨w.heap.size, 0, none⟩ = some (.int .u64 (e.ix : Int)) := s0
  have s3 : W.cell? ⟨w.heap.size, 3, none⟩ = some (.int .i64 2) := s3
  have s6 : W.cell? ⟨w.heap.size, 6, none⟩ = some (.int .u32 (e.f : Int)) := s6
  have s7 : W.cell? ⟨w.heap.size, 7, none⟩ = some (.int .u32 (e.c : Int)) := s7
  have s8 : W.cell? ⟨w.heap.size, 8, none⟩ = some (.string (str e.data)) := s8
  have HR2 := Lib.hid (HR.out.below hBW.out)
  have c3 := HR2.out.c3
  have c4 := HR2.out.c4
  have c5 := HR2.out.c5
  have hSW : S < W.heap.size := HR2.out.lt
  have hRW : w.heap.size < W.heap.size := by omega
  clear HR h
  refine wp_low W.heap.size [([0, 1, 2, 3, 4, 5, 6, 7], 8)] [9, 10, 11, 12, 13, 14, 15, 16, 17] (by kernel_rfl) (by kernel_rfl) (fun d _ _ _ _ h => by cases d <;> exact h) (Nat.le_refl _) fun wd hbd => ?_
  intro q hq
  have e0 := fun z => kept (hq z) s0 hRW
  have e3 := fun z => kept (hq z) s3 hRW
  have e6 := fun z => kept (hq z) s6 hRW
  have e7 := fun z => kept (hq z) s7 hRW
  have e8 := fun z => kept (hq z) s8 hRW
  have d3 := fun z => kept (hq z) c3 hSW
  have d4 := fun z => kept (hq z) c4 hSW
  have d5 := fun z => kept (hq z) c5 hSW
  simp only [pickI, Option.toList_some, List.cons_append, List.nil_append, List.getElem?_toArray, List.getElem?_cons_succ, List.getElem?_cons_zero]
  try go_frame
  go_big_quiet_step (fail)
  go_big_quiet_step (fail)
  go_big_quiet_step (fail)
  go_big_quiet_step (fail)
  go_big_quiet_step (fail)
  go_big_quiet_step (fail)
  go_big_quiet_step (fail)
  go_big_quiet_step (fail)
  refine wpQuiet_nil ?_
  clear hq q e0 e3 e6 e7 e8 d3 d4 d5
  refine seg_op (by simp only [List.getElem?_toArray, List.getElem?_cons_succ, List.getElem?_cons_zero]; rfl) fun K hK => ?_
  go_simp
  refine hK.out _ _ (seg_keep hbd ?_)
  clear hK K
  intro q hq
  have e0 := fun z => kept (hq z) s0 hRW
  have e3 := fun z => kept (hq z) s3 hRW
  have e6 := fun z => kept (hq z) s6 hRW
  have e7 := fun z => kept (hq z) s7 hRW
  have e8 := fun z => kept (hq z) s8 hRW
  have d3 := fun z => kept (hq z) c3 hSW
  have d4 := fun z => kept (hq z) c4 hSW
  have d5 := fun z => kept (hq z) c5 hSW
  simp only [pickI, Option.toList_some, List.cons_append, List.nil_append, List.getElem?_toArray, List.getElem?_cons_succ, List.getElem?_cons_zero]
  try go_frame
  go_big_quiet_step (fail)
  go_big_quiet_step (fail)
  go_big_quiet_step (fail)
  go_big_quiet_step (fail)
  go_big_quiet_step (fail)
  go_big_quiet_step (fail)
  go_big_quiet_step (fail)
  go_big_quiet_step (fail)
  go_big_quiet_step (fail)
  refine wpQuiet_nil ?_
  clear hq q e0 e3 e6 e7 e8 d3 d4 d5
  go_wp2
  have t0 := kept hbd s0 hRW
  have k4 := kept hbd c4 hSW
  have k5 := kept hbd c5 hSW
  have hR6 : w.heap.size < wd.heap.size := Nat.lt_of_lt_of_le hRW hbd.size
  have hS6 : S < wd.heap.size := Nat.lt_of_lt_of_le hSW hbd.size
  have HB6 := Lib.hid (hBW.out.trans (hbd.mono hBW.out.size))
  clear s0 s3 s6 s7 s8 c3 c4 c5 HR2
  refine wp_low wd.heap.size [([0, 1, 2, 3, 4, 5], 6)] [7] (by kernel_rfl) (by kernel_rfl) (fun d _ _ _ _ h => by cases d <;> exact h) (Nat.le_refl _) fun wd hbd => ?_
  intro q hq
  have e0 := fun z => kept (hq z) t0 hR6
  have d4 := fun z => kept (hq z) k4 hS6
  have d5 := fun z => kept (hq z) k5 hS6
  simp only [pickI, Option.toList_some, List.cons_append, List.nil_append, List.getElem?_toArray, List.getElem?_cons_succ, List.getElem?_cons_zero]
  try go_frame
  go_big_quiet_step (fail)
  go_big_quiet_step (fail)
  go_big_quiet_step (fail)
  go_big_quiet_step (fail)
  go_big_quiet_step (fail)
  go_big_quiet_step (fail)
  refine wpQuiet_nil ?_
  clear hq q e0 d4 d5
  refine seg_op (by simp only [List.getElem?_toArray, List.getElem?_cons_succ, List.getElem?_cons_zero]; rfl) fun K hK => ?_
  go_simp
  refine (HH.out _).mono ?_
  rintro e v0 ⟨rfl, bv0⟩
  have zv0 := hbd.trans (bv0.mono hbd.size)
  refine hK.out _ _ (seg_keep zv0 ?_)
  clear hK K
  intro q hq
  have e0 := fun z => kept (hq z) t0 hR6
  have d4 := fun z => kept (hq z) k4 hS6
  have d5 := fun z => kept (hq z) k5 hS6
  simp only [pickI, Option.toList_some, List.cons_append, List.nil_append, List.getElem?_toArray, List.getElem?_cons_succ, List.getElem?_cons_zero]
  try go_frame
  go_big_quiet_step (fail)
  refine wpQuiet_nil ?_
  clear hq q e0 d4 d5
  clear t0 k4 k5
  go_wp2
  all_goals
    go_ret
    exact ⟨by first | rfl | contradiction | (exfalso; simp_all; done) | (rw [if_pos (by assumption)]; rfl) | (rw [if_neg (by assumption)]; rfl), HB6.out.trans (zv0.mono HB6.out.size)⟩
set_option maxHeartbeats 4000000 in
theorem refuses_len {w : World} {S : Nat} {g T : Option Addr} {bn bs : Option Nat} {v : Sv} (_ : Srow w S g T bn bs v) (e : E16) (he : e.Ok) (_ : v.n < 4294967296) (_ : v.L < 18446744073709551616) (_ : v.B < 18446744073709551616) (h1 : e.kind = 1) (hlen : e.data.length ≠ 8 * e.c) :
    Calls Tryz.prog 49 #[.pointer (some ⟨S, 0, none⟩), e16v e] w fun z w' => z = .returned (.int .i64 2) ∧ Below w.heap.size w w' := by
  have hsz : (str e.data).size = e.data.length := List.size_toArray
  have hd := he.data
  have hc := he.c
  have hml : maxLen < 9223372036854775808 := by unfold maxLen; omega
  have w1 : IntKind.u64.wrap ((e.data.length : Nat) : Int) = (e.data.length : Int) := u64w _ (by omega) (by omega)
  have w2 : IntKind.u64.wrap (8 * (e.c : Int)) = 8 * (e.c : Int) := u64w _ (by omega) (by omega)
  have w3 : IntKind.u64.wrap (e.c : Int) = (e.c : Int) := u64w _ (by omega) (by omega)
  have q1 : ((e.data.length : Int) != 8 * (e.c : Int)) = true := by simp; omega
  unfold e16v
  rw [h1]
  go_enter Tryz.func49, Tryz.ntmps49
  go_wp2
  go_ret
  exact ⟨rfl, (Below.refl _ _).alloc (Nat.le_refl _) _⟩
set_option maxHeartbeats 4000000 in
theorem refuses_span {w : World} {S : Nat} {g T : Option Addr} {bn bs : Option Nat} {v : Sv} (h : Srow w S g T bn bs v) (e : E16) (he : e.Ok) (hvn : v.n < 4294967296) (hL : v.L < 18446744073709551616) (hB : v.B < 18446744073709551616) (h1 : e.kind = 1) (hlen : e.data.length = 8 * e.c) (hspan : ¬ (0 < e.c ∧ e.f + e.c ≤ v.n)) :
    Calls Tryz.prog 49 #[.pointer (some ⟨S, 0, none⟩), e16v e] w fun z w' => z = .returned (.int .i64 30) ∧ Below w.heap.size w w' := by
  have HR := Lib.hid h
  have HH := Lib.hid (fun W => has_any v.L v.B e.ix W hL hB he.ix)
  have hsz : (str e.data).size = e.data.length := List.size_toArray
  have hc := he.c
  have HG := Lib.hid (fun W => spgood_any e.f e.c v.n W he.f he.c (by omega))
  rw [show decide (0 < e.c ∧ e.f + e.c ≤ v.n) = false from by simpa using hspan] at HG
  unfold e16v
  rw [h1]
  go_enter Tryz.func49, Tryz.ntmps49
  go_wp2
  have hN := newR w 47 [.int .u64 (e.ix : Int), .int .u64 (e.tm : Int), .int .u64 (e.st : Int), .int .i64 1, .int .u64 (e.cl : Int), .int .u64 (e.rq : Int), .int .u32 (e.f : Int), .int .u32 (e.c : Int), .string (str e.data), .slice e.A e.bl e.bc]
  have s0 := cell_of_row _ _ 0 _ _ _ hN.2.1.out
  have s3 := cell_of_row _ _ 3 _ _ _ hN.2.1.out
  have s6 := cell_of_row _ _ 6 _ _ _ hN.2.1.out
  have s7 := cell_of_row _ _ 7 _ _ _ hN.2.1.out
  have s8 := cell_of_row _ _ 8 _ _ _ hN.2.1.out
  have hBW := Lib.hid hN.2.2.1
  have hRW := hN.2.2.2.out
  clear hN
  generalize w.alloc _ = W at *
  have s0 : W.cell? ⟨w.heap.size, 0, none⟩ = some (.int .u64 (e.ix : Int)) := s0
  have s3 : W.cell? ⟨w.heap.size, 3, none⟩ = some (.int .i64 1) := s3
  have s6 : W.cell? ⟨w.heap.size, 6, none⟩ = some (.int .u32 (e.f : Int)) := s6
  have s7 : W.cell? ⟨w.heap.size, 7, none⟩ = some (.int .u32 (e.c : Int)) := s7
  have s8 : W.cell? ⟨w.heap.size, 8, none⟩ = some (.string (str e.data)) := s8
  have HR2 := Lib.hid (HR.out.below hBW.out)
  have c3 := HR2.out.c3
  have c4 := HR2.out.c4
  have c5 := HR2.out.c5
  have hSW : S < W.heap.size := HR2.out.lt
  have hRW : w.heap.size < W.heap.size := by omega
  clear HR h
  refine wp_low W.heap.size [([0, 1, 2, 3, 4, 5, 6, 7], 8)] [9, 10, 11, 12, 13, 14, 15, 16, 17] (by kernel_rfl) (by kernel_rfl) (fun d _ _ _ _ h => by cases d <;> exact h) (Nat.le_refl _) fun wd hbd => ?_
  intro q hq
  have e0 := fun z => kept (hq z) s0 hRW
  have e3 := fun z => kept (hq z) s3 hRW
  have e6 := fun z => kept (hq z) s6 hRW
  have e7 := fun z => kept (hq z) s7 hRW
  have e8 := fun z => kept (hq z) s8 hRW
  have d3 := fun z => kept (hq z) c3 hSW
  have d4 := fun z => kept (hq z) c4 hSW
  have d5 := fun z => kept (hq z) c5 hSW
  simp only [pickI, Option.toList_some, List.cons_append, List.nil_append, List.getElem?_toArray, List.getElem?_cons_succ, List.getElem?_cons_zero]
  try go_frame
  go_big_quiet_step (fail)
  go_big_quiet_step (fail)
  go_big_quiet_step (fail)
  go_big_quiet_step (fail)
  go_big_quiet_step (fail)
  go_big_quiet_step (fail)
  go_big_quiet_step (fail)
  go_big_quiet_step (fail)
  refine wpQuiet_nil ?_
  clear hq q e0 e3 e6 e7 e8 d3 d4 d5
  refine seg_op (by simp only [List.getElem?_toArray, List.getElem?_cons_succ, List.getElem?_cons_zero]; rfl) fun K hK => ?_
  go_simp
  refine (HG.out _).mono ?_
  rintro e v0 ⟨rfl, bv0⟩
  have zv0 := hbd.trans (bv0.mono hbd.size)
  refine hK.out _ _ (seg_keep zv0 ?_)
  clear hK K
  intro q hq
  have e0 := fun z => kept (hq z) s0 hRW
  have e3 := fun z => kept (hq z) s3 hRW
  have e6 := fun z => kept (hq z) s6 hRW
  have e7 := fun z => kept (hq z) s7 hRW
  have e8 := fun z => kept (hq z) s8 hRW
  have d3 := fun z => kept (hq z) c3 hSW
  have d4 := fun z => kept (hq z) c4 hSW
  have d5 := fun z => kept (hq z) c5 hSW
  simp only [pickI, Option.toList_some, List.cons_append, List.nil_append, List.getElem?_toArray, List.getElem?_cons_succ, List.getElem?_cons_zero]
  try go_frame
  go_big_quiet_step (fail)
  go_big_quiet_step (fail)
  go_big_quiet_step (fail)
  go_big_quiet_step (fail)
  go_big_quiet_step (fail)
  go_big_quiet_step (fail)
  go_big_quiet_step (fail)
  go_big_quiet_step (fail)
  go_big_quiet_step (fail)
  refine wpQuiet_nil ?_
  clear hq q e0 e3 e6 e7 e8 d3 d4 d5
  go_wp2
  go_ret
  exact ⟨rfl, hBW.out.trans (zv0.mono hBW.out.size)⟩
set_option maxHeartbeats 4000000 in
theorem refuses_many {w : World} {S : Nat} {g T : Option Addr} {bn bs : Option Nat} {v : Sv} (h : Srow w S g T bn bs v) (e : E16) (he : e.Ok) (hvn : v.n < 4294967296) (hL : v.L < 18446744073709551616) (hB : v.B < 18446744073709551616) (h1 : e.kind = 1) (hlen : e.data.length = 8 * e.c) (hspan : 0 < e.c ∧ e.f + e.c ≤ v.n) (h8 : 8 < e.c) :
    Calls Tryz.prog 49 #[.pointer (some ⟨S, 0, none⟩), e16v e] w fun z w' => z = .returned (.int .i64 30) ∧ Below w.heap.size w w' := by
  have HR := Lib.hid h
  have HH := Lib.hid (fun W => has_any v.L v.B e.ix W hL hB he.ix)
  have hsz : (str e.data).size = e.data.length := List.size_toArray
  have hc := he.c
  have HG := Lib.hid (fun W => spgood_any e.f e.c v.n W he.f he.c (by omega))
  rw [show decide (0 < e.c ∧ e.f + e.c ≤ v.n) = true from by simpa using hspan] at HG
  unfold e16v
  rw [h1]
  go_enter Tryz.func49, Tryz.ntmps49
  go_wp2
  have hN := newR w 47 [.int .u64 (e.ix : Int), .int .u64 (e.tm : Int), .int .u64 (e.st : Int), .int .i64 1, .int .u64 (e.cl : Int), .int .u64 (e.rq : Int), .int .u32 (e.f : Int), .int .u32 (e.c : Int), .string (str e.data), .slice e.A e.bl e.bc]
  have s0 := cell_of_row _ _ 0 _ _ _ hN.2.1.out
  have s3 := cell_of_row _ _ 3 _ _ _ hN.2.1.out
  have s6 := cell_of_row _ _ 6 _ _ _ hN.2.1.out
  have s7 := cell_of_row _ _ 7 _ _ _ hN.2.1.out
  have s8 := cell_of_row _ _ 8 _ _ _ hN.2.1.out
  have hBW := Lib.hid hN.2.2.1
  have hRW := hN.2.2.2.out
  clear hN
  generalize w.alloc _ = W at *
  have s0 : W.cell? ⟨w.heap.size, 0, none⟩ = some (.int .u64 (e.ix : Int)) := s0
  have s3 : W.cell? ⟨w.heap.size, 3, none⟩ = some (.int .i64 1) := s3
  have s6 : W.cell? ⟨w.heap.size, 6, none⟩ = some (.int .u32 (e.f : Int)) := s6
  have s7 : W.cell? ⟨w.heap.size, 7, none⟩ = some (.int .u32 (e.c : Int)) := s7
  have s8 : W.cell? ⟨w.heap.size, 8, none⟩ = some (.string (str e.data)) := s8
  have HR2 := Lib.hid (HR.out.below hBW.out)
  have c3 := HR2.out.c3
  have c4 := HR2.out.c4
  have c5 := HR2.out.c5
  have hSW : S < W.heap.size := HR2.out.lt
  have hRW : w.heap.size < W.heap.size := by omega
  clear HR h
  refine wp_low W.heap.size [([0, 1, 2, 3, 4, 5, 6, 7], 8)] [9, 10, 11, 12, 13, 14, 15, 16, 17] (by kernel_rfl) (by kernel_rfl) (fun d _ _ _ _ h => by cases d <;> exact h) (Nat.le_refl _) fun wd hbd => ?_
  intro q hq
  have e0 := fun z => kept (hq z) s0 hRW
  have e3 := fun z => kept (hq z) s3 hRW
  have e6 := fun z => kept (hq z) s6 hRW
  have e7 := fun z => kept (hq z) s7 hRW
  have e8 := fun z => kept (hq z) s8 hRW
  have d3 := fun z => kept (hq z) c3 hSW
  have d4 := fun z => kept (hq z) c4 hSW
  have d5 := fun z => kept (hq z) c5 hSW
  simp only [pickI, Option.toList_some, List.cons_append, List.nil_append, List.getElem?_toArray, List.getElem?_cons_succ, List.getElem?_cons_zero]
  try go_frame
  go_big_quiet_step (fail)
  go_big_quiet_step (fail)
  go_big_quiet_step (fail)
  go_big_quiet_step (fail)
  go_big_quiet_step (fail)
  go_big_quiet_step (fail)
  go_big_quiet_step (fail)
  go_big_quiet_step (fail)
  refine wpQuiet_nil ?_
  clear hq q e0 e3 e6 e7 e8 d3 d4 d5
  refine seg_op (by simp only [List.getElem?_toArray, List.getElem?_cons_succ, List.getElem?_cons_zero]; rfl) fun K hK => ?_
  go_simp
  refine (HG.out _).mono ?_
  rintro e v0 ⟨rfl, bv0⟩
  have zv0 := hbd.trans (bv0.mono hbd.size)
  refine hK.out _ _ (seg_keep zv0 ?_)
  clear hK K
  intro q hq
  have e0 := fun z => kept (hq z) s0 hRW
  have e3 := fun z => kept (hq z) s3 hRW
  have e6 := fun z => kept (hq z) s6 hRW
  have e7 := fun z => kept (hq z) s7 hRW
  have e8 := fun z => kept (hq z) s8 hRW
  have d3 := fun z => kept (hq z) c3 hSW
  have d4 := fun z => kept (hq z) c4 hSW
  have d5 := fun z => kept (hq z) c5 hSW
  simp only [pickI, Option.toList_some, List.cons_append, List.nil_append, List.getElem?_toArray, List.getElem?_cons_succ, List.getElem?_cons_zero]
  try go_frame
  go_big_quiet_step (fail)
  go_big_quiet_step (fail)
  go_big_quiet_step (fail)
  go_big_quiet_step (fail)
  go_big_quiet_step (fail)
  go_big_quiet_step (fail)
  go_big_quiet_step (fail)
  go_big_quiet_step (fail)
  go_big_quiet_step (fail)
  refine wpQuiet_nil ?_
  clear hq q e0 e3 e6 e7 e8 d3 d4 d5
  go_wp2
  go_ret
  exact ⟨rfl, hBW.out.trans (zv0.mono hBW.out.size)⟩
set_option maxHeartbeats 4000000 in
theorem refuses_write {w : World} {S : Nat} {g T : Option Addr} {bn bs : Option Nat} {v : Sv} (h : Srow w S g T bn bs v) (e : E16) (he : e.Ok) (hvn : v.n < 4294967296) (hL : v.L < 18446744073709551616) (hB : v.B < 18446744073709551616) (h1 : e.kind = 1) (hlen : e.data.length = 8 * e.c) (hspan : 0 < e.c ∧ e.f + e.c ≤ v.n) (h8 : e.c ≤ 8) :
    Calls Tryz.prog 49 #[.pointer (some ⟨S, 0, none⟩), e16v e] w fun z w' => z = .returned (.int .i64 (if Hs v.L v.B e.ix then 41 else 0)) ∧ Below w.heap.size w w' := by
  have HR := Lib.hid h
  have HH := Lib.hid (fun W => has_any v.L v.B e.ix W hL hB he.ix)
  have hsz : (str e.data).size = e.data.length := List.size_toArray
  have hc := he.c
  have HG := Lib.hid (fun W => spgood_any e.f e.c v.n W he.f he.c (by omega))
  rw [show decide (0 < e.c ∧ e.f + e.c ≤ v.n) = true from by simpa using hspan] at HG
  unfold e16v
  rw [h1]
  go_enter Tryz.func49, Tryz.ntmps49
  go_wp2
  have hN := newR w 47 [.int .u64 (e.ix : Int), .int .u64 (e.tm : Int), .int .u64 (e.st : Int), .int .i64 1, .int .u64 (e.cl : Int), .int .u64 (e.rq : Int), .int .u32 (e.f : Int), .int .u32 (e.c : Int), .string (str e.data), .slice e.A e.bl e.bc]
  have s0 := cell_of_row _ _ 0 _ _ _ hN.2.1.out
  have s3 := cell_of_row _ _ 3 _ _ _ hN.2.1.out
  have s6 := cell_of_row _ _ 6 _ _ _ hN.2.1.out
  have s7 := cell_of_row _ _ 7 _ _ _ hN.2.1.out
  have s8 := cell_of_row _ _ 8 _ _ _ hN.2.1.out
  have hBW := Lib.hid hN.2.2.1
  have hRW := hN.2.2.2.out
  clear hN
  generalize w.alloc _ = W at *
  have s0 : W.cell? ⟨w.heap.size, 0, none⟩ = some (.int .u64 (e.ix : Int)) := s0
  have s3 : W.cell? ⟨w.heap.size, 3, none⟩ = some (.int .i64 1) := s3
  have s6 : W.cell? ⟨w.heap.size, 6, none⟩ = some (.int .u32 (e.f : Int)) := s6
  have s7 : W.cell? ⟨w.heap.size, 7, none⟩ = some (.int .u32 (e.c : Int)) := s7
  have s8 : W.cell? ⟨w.heap.size, 8, none⟩ = some (.string (str e.data)) := s8
  have HR2 := Lib.hid (HR.out.below hBW.out)
  have c3 := HR2.out.c3
  have c4 := HR2.out.c4
  have c5 := HR2.out.c5
  have hSW : S < W.heap.size := HR2.out.lt
  have hRW : w.heap.size < W.heap.size := by omega
  clear HR h
  refine wp_low W.heap.size [([0, 1, 2, 3, 4, 5, 6, 7], 8)] [9, 10, 11, 12, 13, 14, 15, 16, 17] (by kernel_rfl) (by kernel_rfl) (fun d _ _ _ _ h => by cases d <;> exact h) (Nat.le_refl _) fun wd hbd => ?_
  intro q hq
  have e0 := fun z => kept (hq z) s0 hRW
  have e3 := fun z => kept (hq z) s3 hRW
  have e6 := fun z => kept (hq z) s6 hRW
  have e7 := fun z => kept (hq z) s7 hRW
  have e8 := fun z => kept (hq z) s8 hRW
  have d3 := fun z => kept (hq z) c3 hSW
  have d4 := fun z => kept (hq z) c4 hSW
  have d5 := fun z => kept (hq z) c5 hSW
  simp only [pickI, Option.toList_some, List.cons_append, List.nil_append, List.getElem?_toArray, List.getElem?_cons_succ, List.getElem?_cons_zero]
  try go_frame
  go_big_quiet_step (fail)
  go_big_quiet_step (fail)
  go_big_quiet_step (fail)
  go_big_quiet_step (fail)
  go_big_quiet_step (fail)
  go_big_quiet_step (fail)
  go_big_quiet_step (fail)
  go_big_quiet_step (fail)
  refine wpQuiet_nil ?_
  clear hq q e0 e3 e6 e7 e8 d3 d4 d5
  refine seg_op (by simp only [List.getElem?_toArray, List.getElem?_cons_succ, List.getElem?_cons_zero]; rfl) fun K hK => ?_
  go_simp
  refine (HG.out _).mono ?_
  rintro e v0 ⟨rfl, bv0⟩
  have zv0 := hbd.trans (bv0.mono hbd.size)
  refine hK.out _ _ (seg_keep zv0 ?_)
  clear hK K
  intro q hq
  have e0 := fun z => kept (hq z) s0 hRW
  have e3 := fun z => kept (hq z) s3 hRW
  have e6 := fun z => kept (hq z) s6 hRW
  have e7 := fun z => kept (hq z) s7 hRW
  have e8 := fun z => kept (hq z) s8 hRW
  have d3 := fun z => kept (hq z) c3 hSW
  have d4 := fun z => kept (hq z) c4 hSW
  have d5 := fun z => kept (hq z) c5 hSW
  simp only [pickI, Option.toList_some, List.cons_append, List.nil_append, List.getElem?_toArray, List.getElem?_cons_succ, List.getElem?_cons_zero]
  try go_frame
  go_big_quiet_step (fail)
  go_big_quiet_step (fail)
  go_big_quiet_step (fail)
  go_big_quiet_step (fail)
  go_big_quiet_step (fail)
  go_big_quiet_step (fail)
  go_big_quiet_step (fail)
  go_big_quiet_step (fail)
  go_big_quiet_step (fail)
  refine wpQuiet_nil ?_
  clear hq q e0 e3 e6 e7 e8 d3 d4 d5
  go_wp2
  have t0 := kept zv0 s0 hRW
  have k4 := kept zv0 c4 hSW
  have k5 := kept zv0 c5 hSW
  have hR6 : w.heap.size < v0.heap.size := Nat.lt_of_lt_of_le hRW zv0.size
  have hS6 : S < v0.heap.size := Nat.lt_of_lt_of_le hSW zv0.size
  have HB6 := Lib.hid (hBW.out.trans (zv0.mono hBW.out.size))
  clear s0 s3 s6 s7 s8 c3 c4 c5 HR2
  refine wp_low v0.heap.size [([0, 1, 2, 3, 4, 5], 6)] [7] (by kernel_rfl) (by kernel_rfl) (fun d _ _ _ _ h => by cases d <;> exact h) (Nat.le_refl _) fun wd hbd => ?_
  intro q hq
  have e0 := fun z => kept (hq z) t0 hR6
  have d4 := fun z => kept (hq z) k4 hS6
  have d5 := fun z => kept (hq z) k5 hS6
  simp only [pickI, Option.toList_some, List.cons_append, List.nil_append, List.getElem?_toArray, List.getElem?_cons_succ, List.getElem?_cons_zero]
  try go_frame
  go_big_quiet_step (fail)
  go_big_quiet_step (fail)
  go_big_quiet_step (fail)
  go_big_quiet_step (fail)
  go_big_quiet_step (fail)
  go_big_quiet_step (fail)
  refine wpQuiet_nil ?_
  clear hq q e0 d4 d5
  refine seg_op (by simp only [List.getElem?_toArray, List.getElem?_cons_succ, List.getElem?_cons_zero]; rfl) fun K hK => ?_
  go_simp
  refine (HH.out _).mono ?_
  rintro e v0 ⟨rfl, bv0⟩
  have zv0 := hbd.trans (bv0.mono hbd.size)
  refine hK.out _ _ (seg_keep zv0 ?_)
  clear hK K
  intro q hq
  have e0 := fun z => kept (hq z) t0 hR6
  have d4 := fun z => kept (hq z) k4 hS6
  have d5 := fun z => kept (hq z) k5 hS6
  simp only [pickI, Option.toList_some, List.cons_append, List.nil_append, List.getElem?_toArray, List.getElem?_cons_succ, List.getElem?_cons_zero]
  try go_frame
  go_big_quiet_step (fail)
  refine wpQuiet_nil ?_
  clear hq q e0 d4 d5
  clear t0 k4 k5
  go_wp2
  all_goals
    go_ret
    exact ⟨by first | rfl | contradiction | (exfalso; simp_all; done) | (rw [if_pos (by assumption)]; rfl) | (rw [if_neg (by assumption)]; rfl), HB6.out.trans (zv0.mono HB6.out.size)⟩
set_option maxHeartbeats 4000000 in
theorem refuses_any {w : World} {S : Nat} {g T : Option Addr} {bn bs : Option Nat} {v : Sv} (h : Srow w S g T bn bs v) (e : E16) (he : e.Ok) (hvn : v.n < 4294967296) (hL : v.L < 18446744073709551616) (hB : v.B < 18446744073709551616)  :
    Calls Tryz.prog 49 #[.pointer (some ⟨S, 0, none⟩), e16v e] w fun z w' => z = .returned (.int .i64 (whyNot v e)) ∧ Below w.heap.size w w' := by
  unfold whyNot
  by_cases h1 : e.kind = 1
  · rw [if_neg (by omega)]
    by_cases hlen : e.data.length = 8 * e.c
    · rw [if_neg (by omega)]
      by_cases hspan : 0 < e.c ∧ e.f + e.c ≤ v.n
      · by_cases h8 : 8 < e.c
        · rw [if_pos ⟨h1, .inr h8⟩]; exact refuses_many h e he hvn hL hB h1 hlen hspan h8
        · rw [if_neg (by rintro ⟨_, h | h⟩; exact h hspan; exact h8 h)]; exact refuses_write h e he hvn hL hB h1 hlen hspan (by omega)
      · rw [if_pos ⟨h1, .inl hspan⟩]; exact refuses_span h e he hvn hL hB h1 hlen hspan
    · rw [if_pos ⟨h1, hlen⟩]; exact refuses_len h e he hvn hL hB h1 hlen
  · by_cases h2 : e.kind = 2
    · rw [if_neg (by omega), if_neg (by omega), if_neg (by omega)]; exact refuses_noop h e he hvn hL hB h2
    · rw [if_pos ⟨h1, h2⟩]; exact refuses_odd h e he hvn hL hB h1 h2

end Go.Proofs.YtpalmobmabkadaaGreatDoor

namespace Go.Proofs.YtpalmobmabkadaaGreatDoor
set_option maxRecDepth 20000
open Go.ChangeShapes Go.WideShapes Go.ChangeAt Go.RowKit
open Go.Deep (oneCellFields open_slice hone_of)

def fieldsAtK (P : Program) (fs : Array Field) (l : List (Nat × Nat)) : Bool := (List.range fs.size).all fun i => match fs[i]?, l[i]? with
  | some f, some oc => f.offset == oc.1 && P.cellsOf f.type == oc.2
  | _, _ => false
theorem fatK {P : Program} {fs : Array Field} {l : List (Nat × Nat)} (h : fieldsAtK P fs l = true) (i : Nat) (f : Field) (oc : Nat × Nat) (hi : fs[i]? = some f) (hl : l[i]? = some oc) : f.offset = oc.1 ∧ P.cellsOf f.type = oc.2 := by
  have hlt : i < fs.size := (Array.getElem?_eq_some_iff.1 hi).1
  have := List.all_eq_true.1 h i (List.mem_range.2 hlt)
  simp only [hi, hl, Bool.and_eq_true, beq_iff_eq] at this
  exact this
/-- How data of a struct lie in K cells. -/
structure Lay (α : Type) (K : Nat) where
  cells : α → Array Value
  size : ∀ o, (cells o).size = K
  reads : α → World → Prop
  below : ∀ o w w', reads o w → Below w.heap.size w w' → reads o w'
  zero : α
  zeroReads : ∀ w, reads zero w
section
variable {α : Type} {K : Nat} (L : Lay α K)
def Lay.flat (os : List α) : List Value := os.flatMap (fun o => (L.cells o).toList)
theorem Lay.cons (o : α) (os : List α) : L.flat (o :: os) = (L.cells o).toList ++ L.flat os := rfl
theorem Lay.flat_len (os : List α) : (L.flat os).length = os.length * K := by
  induction os with
  | nil => rw [List.length_nil, Nat.zero_mul]; rfl
  | cons o os ih => rw [L.cons, List.length_append, ih, Array.length_toList, L.size, List.length_cons, Nat.succ_mul, Nat.add_comm]
theorem Lay.flat_get (os : List α) (i : Nat) (o : α) (hi : os[i]? = some o) (j : Nat) (u : Value) (hj : (L.cells o)[j]? = some u) : (L.flat os)[i * K + j]? = some u := by
  induction os generalizing i with
  | nil => simp at hi
  | cons p os ih =>
    have hl : (L.cells p).toList.length = K := by rw [Array.length_toList, L.size]
    rw [L.cons]
    cases i with
    | zero =>
      simp only [List.getElem?_cons_zero, Option.some.injEq] at hi
      subst hi
      have hj2 : j < (L.cells p).toList.length := by have := (Array.getElem?_eq_some_iff.1 hj).1; simpa using this
      rw [Nat.zero_mul, Nat.zero_add, List.getElem?_append_left hj2, Array.getElem?_toList, hj]
    | succ i =>
      rw [List.getElem?_cons_succ] at hi
      rw [List.getElem?_append_right (by rw [hl, Nat.succ_mul]; omega), hl, show (i + 1) * K + j - K = i * K + j by rw [Nat.succ_mul]; omega]
      exact ih i hi
theorem Lay.flat_range (g : Nat → α) (n j : Nat) (u : Value) (h : (L.flat ((List.range n).map g))[j]? = some u) : ∃ i c, i < n ∧ c < K ∧ j = i * K + c ∧ (L.cells (g i))[c]? = some u := by
  have hl : j < n * K := by
    have := (List.getElem?_eq_some_iff.1 h).1
    rwa [L.flat_len, List.length_map, List.length_range] at this
  have hK : 0 < K := by rcases Nat.eq_zero_or_pos K with h0 | h0; · rw [h0] at hl; omega
                        · exact h0
  have hi0 : j / K < n := Nat.div_lt_of_lt_mul (by rw [Nat.mul_comm]; exact hl)
  have hdm : j / K * K + j % K = j := by rw [Nat.mul_comm]; exact Nat.div_add_mod j K
  refine ⟨j / K, j % K, hi0, Nat.mod_lt _ hK, hdm.symm, ?_⟩
  have hi : ((List.range n).map g)[j / K]? = some (g (j / K)) := by
    rw [List.getElem?_map, List.getElem?_range hi0]
    rfl
  obtain ⟨u', hu'⟩ : ∃ u', (L.cells (g (j / K)))[j % K]? = some u' := ⟨_, Array.getElem?_eq_getElem (by rw [L.size]; exact Nat.mod_lt _ hK)⟩
  have := L.flat_get _ _ _ hi _ _ hu'
  rw [hdm, h] at this
  cases this
  exact hu'
/-- A slice of such structs. -/
structure Slc (w : World) (A : Option Addr) (n c : Nat) (os : List α) : Prop where
  rd : Rd w w.heap.size K A n c (L.flat os)
  len : os.length = n
  reads : ∀ o ∈ os, L.reads o w
variable {L}
theorem Slc.below {w w' : World} {A : Option Addr} {n c : Nat} {os : List α} (h : Slc L w A n c os) (hb : Below w.heap.size w w') : Slc L w' A n c os :=
  ⟨(h.rd.below hb).more hb.size, h.len, fun o ho => L.below o w w' (h.reads o ho) hb⟩
theorem Slc.at_ {w : World} {A : Option Addr} {n c : Nat} {os : List α} (h : Slc L w A n c os) (hn : 0 < n) : ∃ b off, A = some ⟨b, off, none⟩ ∧ b < w.heap.size ∧ ∀ i o, os[i]? = some o → ∀ j u, (L.cells o)[j]? = some u → w.cell? ⟨b, off + (i * K + j), none⟩ = some u := by
  obtain ⟨b, off, hA, hb, hc⟩ := h.rd.2.2.2 hn
  exact ⟨b, off, hA, hb, fun i o hi j u hu => hc _ _ (L.flat_get os i o hi j u hu)⟩
end
section
variable {H : Type} {enc : TypeId × Value → H} {P : Program} {W : World} {r : Reach} {b0 : Nat} {t e : TypeId} {v : Value} {d : DataW H} {p : List MemPlace} {α : Type} {K : Nat} {L : Lay α K}
theorem dec_slc (ht : P.underlying t = some (.slice e)) (hC : P.cellsOf e = K) (hK : 0 < K) (hof : ∀ n cs y, cs.length = K → DataW.trod enc P W 0 (fun _ => true) true n e cs = some y → ∃ o, cs = (L.cells o).toList ∧ L.reads o W)
    (hok : Value.okWide P W r b0 t v) (h : DataW.Trod enc P W 0 (fun _ => true) true t v d p) : ∃ (A : Option Addr) (n c : Nat) (os : List α), v = .slice A n c ∧ Slc L W A n c os := by
  obtain ⟨A, n, c, rfl⟩ := okWide_slice ht hok
  obtain ⟨fuel, hf⟩ := h
  rcases open_slice ht hf with ⟨hcs, _⟩ | ⟨x, l, c', m, k, D, Pl, hcs, _, hl, hm, hmm, _, hi⟩
  · simp [Value.cells] at hcs
    obtain ⟨rfl, rfl, rfl⟩ := hcs
    refine ⟨_, _, _, [], rfl, ⟨?_, rfl, fun _ h => by cases h⟩⟩
    exact ⟨Nat.le_refl _, Nat.zero_le _, by rw [L.flat_len]; rfl, fun h => absurd h (Nat.lt_irrefl _)⟩
  · simp [Value.cells] at hcs
    obtain ⟨rfl, rfl, rfl⟩ := hcs
    simp only [if_true] at hmm
    rw [hC] at hi
    have each : ∀ i, ∃ o : α, (i < n → ∀ c u, (L.cells o)[c]? = some u → W.cell? (x.add (i * K + c)) = some u) ∧ L.reads o W := by
      intro i
      by_cases hin : i < n
      · obtain ⟨cs', hc, ht'⟩ := hi i (by omega)
        obtain ⟨_, hcl, hat⟩ := World.cells?_some hc
        obtain ⟨o, ho, hr⟩ := hof _ _ _ hcl ht'
        refine ⟨o, fun _ c u hu => ?_, hr⟩
        have hc10 : c < K := by have := (Array.getElem?_eq_some_iff.1 hu).1; rwa [L.size] at this
        have a := hat c hc10
        rw [← Go.Deep.add_add, a, ho]
        rwa [Array.getElem?_toList]
      · exact ⟨L.zero, fun h => absurd h hin, L.zeroReads W⟩
    obtain ⟨g, hg⟩ := Classical.axiomOfChoice each
    refine ⟨_, n, c, (List.range n).map g, rfl, ⟨hl, hm, by rw [L.flat_len]; simp, fun hn => ?_⟩, by simp, fun o ho => by obtain ⟨i, _, rfl⟩ := List.mem_map.1 ho; exact (hg i).2⟩
    obtain ⟨u0, hu0⟩ : ∃ u', (L.cells (g 0))[0]? = some u' := ⟨_, Array.getElem?_eq_getElem (by rw [L.size]; exact hK)⟩
    have hc0 := (hg 0).1 (by omega) 0 _ hu0
    obtain ⟨b, off, spot⟩ := x
    have hspot : spot = none := by simpa [Addr.add] using World.cell?_spot hc0
    subst hspot
    refine ⟨b, off, rfl, ?_, fun j u hu => ?_⟩
    · have := World.block_lt_of_cell? W _ hc0
      simpa [addOff] using this
    · obtain ⟨i, c', hi', hc', rfl, hu'⟩ := L.flat_range g n j u hu
      have := (hg i).1 hi' c' u hu'
      rwa [addOff] at this
end
end Go.Proofs.YtpalmobmabkadaaGreatDoor

namespace Go.Proofs.YtpalmobmabkadaaGreatDoor
set_option maxRecDepth 20000
open Go.ChangeShapes Go.WideShapes Go.ChangeAt Go.RowKit

/-- A call: what it is, an entry, an image, when the power goes, what is kept. -/
structure O16 where
  kd : Int
  e : E16
  i : Im
  fu : Int
  kA : Option Addr
  kn : Nat
  kc : Nat
  ks : List Int
  i8 : i.T.length = 8
def O16.list (o : O16) : List Value := .int .i64 o.kd :: (e16cs o.e ++ (icells o.i ++ [.int .i64 o.fu, .slice o.kA o.kn o.kc]))
def O16.cells (o : O16) : Array Value := o.list.toArray
theorem O16.len (o : O16) : o.list.length = 32 := by
  have h1 := icells_19 o.i8
  have h2 : (e16cs o.e).length = 10 := rfl
  unfold O16.list
  rw [List.length_cons, List.length_append, List.length_append, h1, h2]
  rfl
theorem O16.size (o : O16) : o.cells.size = 32 := o.len
def O16.Reads (o : O16) (W : World) : Prop := (Lit.int .i64 o.kd).wf = true ∧ o.e.Ok ∧ o.i.ok ∧ (Lit.int .i64 o.fu).wf = true ∧ Rd W W.heap.size 1 o.kA o.kn o.kc (o.ks.map (Value.int .i64)) ∧ ∀ z ∈ o.ks, (Lit.int .i64 z).wf = true
section
variable {H : Type} {enc : TypeId × Value → H} {W : World} {r : Reach} {b0 : Nat} {v : Value} {d : DataW H} {p : List MemPlace}
theorem image_of_cells {n : Nat} {cs : List Value} {y : DataW H × List MemPlace} (hl : cs.length = 19) (h : DataW.trod enc Tryz.prog W 0 (fun _ => true) true n 43 cs = some y) : ∃ i : Im, cs = icells i ∧ i.ok := by
  obtain ⟨i, hi, ho⟩ := dec_image_at (enc := enc) (W := W) (d := y.1) (p := y.2) imA (by kernel_rfl) (by kernel_rfl) (by kernel_rfl) cl_one marks_one image_str (cs := cs.toArray) (by simpa using hl) ⟨n, h⟩
  refine ⟨i, ?_, ho⟩
  have := Value.agg.inj hi
  simpa using congrArg Array.toList this
theorem O16.of_cells {n : Nat} {cs : List Value} {y : DataW H × List MemPlace} (hl : cs.length = 32) (h : DataW.trod enc Tryz.prog W 0 (fun _ => true) true n 50 cs = some y) : ∃ o : O16, cs = o.cells.toList ∧ o.Reads W := by
  obtain ⟨g0, g1, g2, g3, g4, hs, hat, t0, t1, t2, t3, t4⟩ : ∃ g0 g1 g2 g3 g4 : Field, Tryz.prog.underlying 50 = some (.struct #[g0, g1, g2, g3, g4]) ∧ fieldsAtK Tryz.prog #[g0, g1, g2, g3, g4] [(0, 1), (1, 10), (11, 19), (30, 1), (31, 1)] = true ∧ g0.type = 3 ∧ g1.type = 47 ∧ g2.type = 43 ∧ g3.type = 3 ∧ g4.type = 48 := ⟨_, _, _, _, _, Tryz.underlying50, by kernel_rfl, rfl, rfl, rfl, rfl, rfl⟩
  obtain ⟨ys, n', _, _, _, hyl, hg⟩ := DataW.trod_struct hs h
  match ys, hyl with
  | [y0, y1, y2, y3, y4], _ =>
    have k0 := hg 0 g0 rfl
    obtain ⟨o0, m0⟩ := fatK hat 0 g0 (0, 1) rfl rfl
    rw [o0, m0, t0] at k0
    have k1 := hg 1 g1 rfl
    obtain ⟨o1, m1⟩ := fatK hat 1 g1 (1, 10) rfl rfl
    rw [o1, m1, t1] at k1
    have k2 := hg 2 g2 rfl
    obtain ⟨o2, m2⟩ := fatK hat 2 g2 (11, 19) rfl rfl
    rw [o2, m2, t2] at k2
    have k3 := hg 3 g3 rfl
    obtain ⟨o3, m3⟩ := fatK hat 3 g3 (30, 1) rfl rfl
    rw [o3, m3, t3] at k3
    have k4 := hg 4 g4 rfl
    obtain ⟨o4, m4⟩ := fatK hat 4 g4 (31, 1) rfl rfl
    rw [o4, m4, t4] at k4
    clear hg hat
    obtain ⟨a0, e0, _, w0⟩ := DataW.trod_int Tryz.underlying3 k0
    obtain ⟨⟨en0, en1, en2, en3, en4, en5, en6, en7, en8, en9, en10, en11, en12⟩, e1, v0, v1, v2, v3, ⟨v4, v5, v6, v7⟩, v8, _⟩ := entry_of_cells entryT (by rw [List.length_take, List.length_drop]; omega) k1
    obtain ⟨i, e2, w2⟩ := image_of_cells (by rw [List.length_take, List.length_drop]; omega) k2
    obtain ⟨a3, e3, _, w3⟩ := DataW.trod_int Tryz.underlying3 k3
    have e4 : (cs.drop 31).take 1 = [cs[31]'(by omega)] := by
      rw [List.drop_eq_getElem_cons (by omega)]
      rfl
    have k4' : DataW.trod enc Tryz.prog W 0 (fun _ => true) true n' 48 [cs[31]'(by omega)] = some y4 := by rw [← e4]; exact k4
    obtain ⟨A, kn, kc, ks, e5, r1, r2⟩ := cell_nums Tryz.underlying48 Tryz.underlying3 (by kernel_rfl) k4'
    have w1 : E16.Ok ⟨en0, en1, en2, en3, en4, en5, en6, en7, en8, en9, en10, en11⟩ := ⟨v0, v1, v2, by simpa [Lit.wf, IntKind.min, IntKind.max, IntKind.signed, IntKind.bits] using v3, v4, v5, v6, v7, v8⟩
    refine ⟨⟨a0, ⟨en0, en1, en2, en3, en4, en5, en6, en7, en8, en9, en10, en11⟩, i, a3, A, kn, kc, ks, w2.2.2.1⟩, ?_, w0, w1, w2, w3, r1, r2⟩
    unfold O16.cells O16.list
    rw [List.toList_toArray]
    have h5 : cs = (cs.drop 0).take 1 ++ ((cs.drop 1).take 10 ++ ((cs.drop 11).take 19 ++ ((cs.drop 30).take 1 ++ (cs.drop 31).take 1))) := by
      have f1 : (cs.drop 31).take 1 = cs.drop 31 := List.take_of_length_le (by rw [List.length_drop]; omega)
      rw [f1]
      rw [show cs.drop 31 = (cs.drop 30).drop 1 by rw [List.drop_drop], List.take_append_drop, show cs.drop 30 = (cs.drop 11).drop 19 by rw [List.drop_drop], List.take_append_drop, show cs.drop 11 = (cs.drop 1).drop 10 by rw [List.drop_drop], List.take_append_drop, show cs.drop 1 = (cs.drop 0).drop 1 by rw [List.drop_drop], List.take_append_drop, List.drop_zero]
    rw [h5, e0, e1, e2, e3, e4, e5]
    rfl
theorem O16.below {o : O16} {W W' : World} (h : o.Reads W) (hb : Below W.heap.size W W') : o.Reads W' := by
  obtain ⟨h0, h1, h2, h3, h4, h5⟩ := h
  exact ⟨h0, h1, h2, h3, (h4.below hb).more hb.size, h5⟩
def O16.zero : O16 := ⟨0, ⟨0, 0, 0, 0, 0, 0, 0, 0, [], none, 0, 0⟩, I0, 0, none, 0, 0, [], rfl⟩
theorem O16.zero_reads (W : World) : O16.zero.Reads W := ⟨by decide, ⟨by decide, by decide, by decide, by decide, by decide, by decide, by decide, by decide, by decide⟩, ⟨by decide, by decide, rfl, fun p hp => by obtain rfl := List.eq_of_mem_replicate hp; exact ⟨by decide, by decide⟩⟩, by decide, Rd.nil_, fun _ h => by cases h⟩
def O16.lay : Lay O16 32 := ⟨O16.cells, O16.size, O16.Reads, fun _ _ _ h hb => O16.below h hb, O16.zero, O16.zero_reads⟩
theorem O16.dec (hok : Value.okWide Tryz.prog W r b0 22 v) (h : DataW.Trod enc Tryz.prog W 0 (fun _ => true) true 22 v d p) : ∃ (A : Option Addr) (n c : Nat) (os : List O16), v = .slice A n c ∧ Slc O16.lay W A n c os :=
  dec_slc Tryz.underlying22 (by kernel_rfl) (by decide) (fun _ _ _ hl h => O16.of_cells hl h) hok h
theorem okWide_op (hok : Value.okWide Tryz.prog W r b0 50 v) : ∃ cs, v = .agg cs ∧ cs.size = 32 := by
  obtain ⟨cs, h1, h2⟩ := okWide_struct' Tryz.underlying50 hok
  exact ⟨cs, h1, h2.trans (by kernel_rfl)⟩
theorem O16.decv (hok : Value.okWide Tryz.prog W r b0 50 v) (h : DataW.Trod enc Tryz.prog W 0 (fun _ => true) true 50 v d p) : ∃ o : O16, v = .agg o.cells ∧ o.Reads W := by
  obtain ⟨cs, rfl, hsz⟩ := okWide_op hok
  obtain ⟨fuel, hf⟩ := h
  obtain ⟨o, ho, hr⟩ := O16.of_cells (cs := cs.toList) (by rw [Array.length_toList]; exact hsz) hf
  exact ⟨o, by rw [show cs = o.cells from Array.ext' ho], hr⟩
end
end Go.Proofs.YtpalmobmabkadaaGreatDoor

namespace Go.Proofs.YtpalmobmabkadaaGreatDoor
open Go.RowKit
set_option maxRecDepth 20000

section
variable {P : Program} {w : World} {ty : TypeId} {ops : Array Oper} {rest : List Oper} {o : Oper} {a : Act} {Q : Exit → Act → World → Prop}
theorem wpL_newrow (hgd : o.guard = none) (ho : o.op = .alloc ty) {cs : List Value} (hz : ∀ w, (zeroValue ty).run P w = .ok (.agg cs.toArray) w)
    (hk : ∀ (W : World) (b : Nat), NewR w ty cs W b → wpList P ops Q rest (a.put o.dst (.pointer (some ⟨b, 0, none⟩))) W) : wpList P ops Q (o :: rest) a w := by
  refine wpList_plain hgd fun K hK => ?_
  have hr : (Instr.alloc ty true (.tuple #[])).run P w = .ok (.pointer (some ⟨w.heap.size, 0, none⟩)) (w.alloc (.cells cs.toArray ty)) := by
    have h0 : (newVar ty (.agg cs.toArray)).run P w = .ok ⟨w.heap.size, 0, none⟩ (w.alloc (.cells cs.toArray ty)) := run_newVar ty (.agg cs.toArray)
    simp only [Instr.alloc, Sem.run_bind, hz, Result.andThen_ok, h0, Sem.run_pure]
  unfold Oper.wp
  simp only [execOp, ho, Sem.run_bind, hr, Result.andThen_ok, Sem.run_pure]
  exact hK _ _ (hk _ _ (newR w ty cs))
theorem wpL_storerow (hgd : o.guard = none) (x y : Operand) (ho : o.op = .store ty x y) {g : Nat} {e : TypeId} {S T : List Value} (hx : a.eval x = .pointer (some ⟨g, 0, none⟩)) (hy : a.eval y = .agg T.toArray) (hr : w.heap[g]? = some (.cells S.toArray e (0, 0)))
    (hi : (P.info? ty).map (·.size) = some T.length) (hS : S.length = T.length) (h1 : ∀ u ∈ T, u.oneCell' = true)
    (hk : ∀ W : World, Hid (W.heap[g]? = some (.cells T.toArray e (0, 0))) → w.grownBy W (some g) → Hid (W.heap.size = w.heap.size) → wpList P ops Q rest (a.put o.dst undef) W) : wpList P ops Q (o :: rest) a w := by
  refine wpList_plain hgd fun K hK => ?_
  have hrun : (Instr.storeAt ty (.pointer (some ⟨g, 0, none⟩)) (.agg T.toArray)).run P w = .ok () (w.setRow g T.toArray) := by
    simp only [Instr.storeAt, Instr.sureAddr, Sem.run_bind, Sem.run_pure, Result.andThen_ok]
    exact run_storeVar_row w g e ty _ _ hr (by rw [hi]; simp) (by simp [hS]) (by
      rw [Array.all_eq_true_iff_forall_mem]
      intro x hx
      exact h1 x (by simpa using hx))
  unfold Oper.wp
  simp only [execOp, ho, hx, hy, Sem.run_bind, hrun, Result.andThen_ok, Sem.run_pure]
  exact hK _ _ (hk _ (Lib.hid (setRow_heap w g _ _ e _ hr)) ⟨rfl, rfl, rfl, by simp, fun k _ hk => setRow_other w g k _ (fun e => hk (by rw [e]))⟩ (Lib.hid (by simp)))
end
theorem e16_one (e : E16) : ∀ u ∈ e16cs e, u.oneCell' = true := by
  intro u hu
  simp only [e16cs, List.mem_cons, List.not_mem_nil, or_false] at hu
  rcases hu with rfl | rfl | rfl | rfl | rfl | rfl | rfl | rfl | rfl | rfl <;> rfl
theorem O16.one (o : O16) : ∀ u ∈ o.list, u.oneCell' = true := by
  intro u hu
  simp only [O16.list, List.mem_cons, List.mem_append, List.not_mem_nil, or_false] at hu
  rcases hu with rfl | hu | hu | rfl | rfl
  · rfl
  · exact e16_one _ u hu
  · exact icells_one _ u hu
  · rfl
  · rfl
theorem op_size : (Tryz.prog.info? 50).map (·.size) = some 32 := by kernel_rfl
theorem zero_op (w : World) : (zeroValue 50).run Tryz.prog w = .ok (.agg O16.zero.list.toArray) w := by kernel_rfl
theorem buildSlice_op (cs : List Value) (hl : cs.length = 32) (w : World) : (Instr.buildSlice 22 1 #[(0, .agg cs.toArray)]).run Tryz.prog w = .ok (.slice (some ⟨w.heap.size, 0, none⟩) 1 1) (w.alloc (.cells cs.toArray 50)) := by
  have hsz : (Go.sizeOf 50).run Tryz.prog w = .ok 32 w := by kernel_rfl
  have hf : ∀ zc : Array Value, Instr.fill (fun i => some (i * 32, 32)) ((Array.range (1 * 32)).map (zc[· % zc.size]!)) [(0, .agg cs.toArray)] = some cs.toArray := by
    intro zc
    have hr : ((Array.range (1 * 32)).map (zc[· % zc.size]!)).size = 32 := by simp
    generalize (Array.range (1 * 32)).map (zc[· % zc.size]!) = ds at *
    unfold Instr.fill
    simp only
    rw [if_neg (by rw [show (Value.agg cs.toArray).cells = cs.toArray from rfl, hr]; simp [hl])]
    unfold Instr.fill
    congr 1
    rw [show (Value.agg cs.toArray).cells = cs.toArray from rfl, ← Array.foldl_toList, Array.toList_zipIdx]
    have := fold_set (0 * 32) cs 0 ds (by omega)
    rw [this]
    have hd : ds.toList.drop (0 * 32 + 0 + cs.length) = [] := List.drop_of_length_le (by rw [Array.length_toList]; omega)
    rw [hd]
    simp
  unfold Instr.buildSlice
  simp only [Sem.run_bind, run_underlying Tryz.underlying22, Result.andThen_ok, hsz]
  simp [Result.andThen, newRow]
  rw [show Array.range 32 = Array.range (1 * 32) from rfl, hf]
  simp
section
variable {w : World} {ops : Array Oper} {rest : List Oper} {o : Oper} {a : Act} {Q : Exit → Act → World → Prop}
theorem wpL_bslice_op (hgd : o.guard = none) (x : Operand) (ho : o.op = .buildSlice 22 1 #[(0, x)]) {cs : List Value} (hx : a.eval x = .agg cs.toArray) (hl : cs.length = 32)
    (hk : ∀ (W : World) (b : Nat), NewR w 50 cs W b → wpList Tryz.prog ops Q rest (a.put o.dst (.slice (some ⟨b, 0, none⟩) 1 1)) W) : wpList Tryz.prog ops Q (o :: rest) a w :=
  wpList_plain hgd fun _ hK => wp_bslice _ 1 x ho hx (buildSlice_op cs hl w) (hK _ _ (hk _ _ (newR w _ cs)))
end
set_option maxHeartbeats 1000000 in
theorem light9_any (e : E16) (w : World) : Calls Tryz.prog 18 #[.agg (e16cs e).toArray] w fun z w' => z = .returned (.bool (decide (e.data.length ≤ 20000) && decide (e.bl ≤ 200))) ∧ Below w.heap.size w w' := by
  have hsz : (str e.data).size = e.data.length := List.size_toArray
  by_cases h1 : e.data.length ≤ 20000
  · by_cases h2 : e.bl ≤ 200
    · have d1 : decide ((e.data.length : Int) ≤ 20000) = true := by simp; omega
      have d2 : decide ((e.bl : Int) ≤ 200) = true := by simp; omega
      rw [decide_eq_true h1, decide_eq_true h2]
      clear h1 h2
      go_enter Tryz.func18, Tryz.ntmps18
      go_wp2_with (first
        | (refine wpL_rbox (cs := e16cs e) rfl _ rfl rfl ?_; intro W1 bx hN; obtain ⟨hbx, hr1, hb1, hz1⟩ := hN; have x7 := cell_of_row W1 bx 8 _ _ _ hr1.out; have x8 := cell_of_row W1 bx 9 _ _ _ hr1.out; simp only [e16cs, List.getElem?_toArray, List.getElem?_cons_succ, List.getElem?_cons_zero] at x7 x8)
        | fail)
      go_ret
      exact ⟨rfl, hb1⟩
    · have d1 : decide ((e.data.length : Int) ≤ 20000) = true := by simp; omega
      have d2 : decide ((e.bl : Int) ≤ 200) = false := by simp; omega
      rw [decide_eq_true h1, decide_eq_false h2]
      clear h1 h2
      go_enter Tryz.func18, Tryz.ntmps18
      go_wp2_with (first
        | (refine wpL_rbox (cs := e16cs e) rfl _ rfl rfl ?_; intro W1 bx hN; obtain ⟨hbx, hr1, hb1, hz1⟩ := hN; have x7 := cell_of_row W1 bx 8 _ _ _ hr1.out; have x8 := cell_of_row W1 bx 9 _ _ _ hr1.out; simp only [e16cs, List.getElem?_toArray, List.getElem?_cons_succ, List.getElem?_cons_zero] at x7 x8)
        | fail)
      go_ret
      exact ⟨rfl, hb1⟩
  · have d1 : decide ((e.data.length : Int) ≤ 20000) = false := by simp; omega
    rw [decide_eq_false h1]
    clear h1
    go_enter Tryz.func18, Tryz.ntmps18
    go_wp2_with (first
      | (refine wpL_rbox (cs := e16cs e) rfl _ rfl rfl ?_; intro W1 bx hN; obtain ⟨hbx, hr1, hb1, hz1⟩ := hN; have x7 := cell_of_row W1 bx 8 _ _ _ hr1.out; have x8 := cell_of_row W1 bx 9 _ _ _ hr1.out; simp only [e16cs, List.getElem?_toArray, List.getElem?_cons_succ, List.getElem?_cons_zero] at x7 x8)
      | fail)
    go_ret
    exact ⟨rfl, hb1⟩
end Go.Proofs.YtpalmobmabkadaaGreatDoor
