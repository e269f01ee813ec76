/- BehindVoids: who is told of is not void, nobody voids one of its own term, and all others are void that the document says. -/
import Derived.Test.YtdaniaijlkflcaaBlight
import Derived.Deep.DeepCutAuto
import Derived.Deep.CutBlock
namespace Go.Proofs.Ytdaniaijlkflcaa
open Go.RowKit

def two (e x : En) : Array Value := #[.int .u64 (e.ix : Int), .int .u64 (e.tm : Int), .int .u64 (e.st : Int), .int .i64 e.kd, .int .u64 (e.cl : Int), .int .u64 (e.rq : Int), .int .u32 (e.fr : Int), .int .u32 (e.ct : Int), .string (str e.da), .slice e.A e.bn e.bc, .int .u64 (x.ix : Int), .int .u64 (x.tm : Int), .int .u64 (x.st : Int), .int .i64 x.kd, .int .u64 (x.cl : Int), .int .u64 (x.rq : Int), .int .u32 (x.fr : Int), .int .u32 (x.ct : Int), .string (str x.da), .slice x.A x.bn x.bc]
theorem ents2 {w : World} {b : Nat} {t : TypeId} {fr : Nat × Nat} {e x : En} (h : w.heap[b]? = some (.cells (two e x) t fr)) (he : e.Reads w) (hx : x.Reads w) : Ents w (some ⟨b, 0, none⟩) 2 2 [e, x] := by
  have hlt : b < w.heap.size := (Array.getElem?_eq_some_iff.1 h).1
  refine ⟨⟨Nat.le_refl _, by unfold maxLen; omega, rfl, fun _ => ⟨b, 0, rfl, hlt, fun j u hu => ?_⟩⟩, rfl, fun y hy => ?_⟩
  · rw [cell_of_row w b (0 + j) _ _ _ h, Nat.zero_add]
    have e1 : ens [e, x] = (two e x).toList := rfl
    rw [e1] at hu
    rwa [← Array.getElem?_toList]
  · simp at hy
    rcases hy with rfl | rfl
    · exact he
    · exact hx

theorem again_eq (ix tm st : Nat) (kd : Int) (cl rq fr ct : Nat) (da : List UInt8) (A : Option Addr) (bn bc : Nat) (ls : List Lk) (ix2 tm2 st2 : Nat) (kd2 : Int) (cl2 rq2 fr2 ct2 : Nat) (da2 : List UInt8) (A2 : Option Addr) (bn2 bc2 : Nat) (ls2 : List Lk) : En.again ⟨ix, tm, st, kd, cl, rq, fr, ct, da, A, bn, bc, ls⟩ ⟨ix2, tm2, st2, kd2, cl2, rq2, fr2, ct2, da2, A2, bn2, bc2, ls2⟩ = ((kd == 1) && ((kd2 == 1) && (((cl : Int) == (cl2 : Int)) && (((rq : Int) == (rq2 : Int)) && ((ix : Int) != (ix2 : Int)))))) := by
  unfold En.again
  have b1 : decide (kd = 1) = (kd == 1) := by by_cases h : kd = 1 <;> simp [h]
  have b2 : decide (kd2 = 1) = (kd2 == 1) := by by_cases h : kd2 = 1 <;> simp [h]
  have b3 : decide (cl = cl2) = ((cl : Int) == (cl2 : Int)) := by by_cases h : cl = cl2 <;> simp [h] <;> omega
  have b4 : decide (rq = rq2) = ((rq : Int) == (rq2 : Int)) := by by_cases h : rq = rq2 <;> simp [h] <;> omega
  have b5 : decide (ix ≠ ix2) = ((ix : Int) != (ix2 : Int)) := by by_cases h : ix = ix2 <;> simp [h] <;> omega
  dsimp only
  rw [b1, b2, b3, b4, b5]

set_option maxHeartbeats 4000000 in
set_option maxRecDepth 8000 in
theorem behindVoids_walk {w : World} (e : En) (he : e.Reads w) (x : En) (hx : x.Reads w) :
    Calls Try.prog 5 #[.agg e.cells, .agg x.cells] w fun r w' => r = .returned (.bool true) ∧ Below w.heap.size w w' := by
  obtain ⟨Z, hZ, hz, r0, r1, r2, hb⟩ := boxes3 w e.cells x.cells (two e x) 28 28 28
  have hLI := light10 (ents2 r2 (he.below hb) (hx.below hb))
  have hVO := fun W' (hb' : Below w.heap.size w W') => voids_any e x W' (he.below hb') (hx.below hb')
  have hTL := fun W' (hb' : Below w.heap.size w W') => tells_any e x W' (he.below hb') (hx.below hb')
  have hTI : e.tells x = true → (e.at x.ix).isSome = true := by
    unfold En.tells
    intro h
    rw [of_decide_eq_true h]
    rfl
  have hV : e.voids x = (decide (x.tm < e.tm) && (decide (e.st ≤ x.ix) || (((e.at x.ix).isSome && !e.tells x) || e.again x))) := rfl
  have hR : ∃ R, e.again x = R := ⟨_, rfl⟩
  obtain ⟨R, hR⟩ := hR
  rw [hR] at hV
  generalize e.tells x = T at *
  generalize (e.at x.ix).isSome = I at *
  generalize e.voids x = V at *
  have HB := Lib.hid hb
  have HZ := Lib.hid hz
  have HR := Lib.hid hR
  have HV := Lib.hid hV
  have HTI := Lib.hid hTI
  clear hR hV hTI
  have HLI := Lib.hid hLI
  have HVO := Lib.hid hVO
  have HTL := Lib.hid hTL
  clear hLI hVO hTL he hx hb hz
  obtain ⟨ix, tm, st, kd, cl, rq, fr, ct, da, A, bn, bc, ls⟩ := e
  obtain ⟨ix2, tm2, st2, kd2, cl2, rq2, fr2, ct2, da2, A2, bn2, bc2, ls2⟩ := x
  unfold En.cells two at *
  dsimp only at *
  go_enter Try.func5, Try.ntmps5
  go_upto_region 4 with (first
    | (go_at_call 6; rw [← hZ]; refine HLI.out.mono ?_; rintro e w1 ⟨b1, rfl, _, hb1⟩
       have HB1 := Lib.hid (HB.out.trans (hb1.mono HB.out.size))
       have s0 := cellz (j := 0) (u := .int .u64 (ix : Int)) hb1 r0 rfl (by have := HZ.out; omega)
       have s1 := cellz (j := 1) (u := .int .u64 (tm : Int)) hb1 r0 rfl (by have := HZ.out; omega)
       have s2 := cellz (j := 2) (u := .int .u64 (st : Int)) hb1 r0 rfl (by have := HZ.out; omega)
       have s3 := cellz (j := 3) (u := .int .i64 kd) hb1 r0 rfl (by have := HZ.out; omega)
       have s4 := cellz (j := 4) (u := .int .u64 (cl : Int)) hb1 r0 rfl (by have := HZ.out; omega)
       have s5 := cellz (j := 5) (u := .int .u64 (rq : Int)) hb1 r0 rfl (by have := HZ.out; omega)
       have s6 := cellz (j := 6) (u := .int .u32 (fr : Int)) hb1 r0 rfl (by have := HZ.out; omega)
       have s7 := cellz (j := 7) (u := .int .u32 (ct : Int)) hb1 r0 rfl (by have := HZ.out; omega)
       have s8 := cellz (j := 8) (u := .string (str da)) hb1 r0 rfl (by have := HZ.out; omega)
       have s9 := cellz (j := 9) (u := .slice A bn bc) hb1 r0 rfl (by have := HZ.out; omega)
       have t0 := cellz (j := 0) (u := .int .u64 (ix2 : Int)) hb1 r1 rfl (by have := HZ.out; omega)
       have t1 := cellz (j := 1) (u := .int .u64 (tm2 : Int)) hb1 r1 rfl (by have := HZ.out; omega)
       have t2 := cellz (j := 2) (u := .int .u64 (st2 : Int)) hb1 r1 rfl (by have := HZ.out; omega)
       have t3 := cellz (j := 3) (u := .int .i64 kd2) hb1 r1 rfl (by have := HZ.out; omega)
       have t4 := cellz (j := 4) (u := .int .u64 (cl2 : Int)) hb1 r1 rfl (by have := HZ.out; omega)
       have t5 := cellz (j := 5) (u := .int .u64 (rq2 : Int)) hb1 r1 rfl (by have := HZ.out; omega)
       have t6 := cellz (j := 6) (u := .int .u32 (fr2 : Int)) hb1 r1 rfl (by have := HZ.out; omega)
       have t7 := cellz (j := 7) (u := .int .u32 (ct2 : Int)) hb1 r1 rfl (by have := HZ.out; omega)
       have t8 := cellz (j := 8) (u := .string (str da2)) hb1 r1 rfl (by have := HZ.out; omega)
       have t9 := cellz (j := 9) (u := .slice A2 bn2 bc2) hb1 r1 rfl (by have := HZ.out; omega)
       clear hb1
       cases b1)
    | (go_at_call 14; refine (HVO.out _ HB1.out).mono ?_; rintro e w2 ⟨rfl, hb2⟩
       have p0 := (hb2.cell (p := ⟨w.heap.size, 0, none⟩) (block_lt_of_cell s0)).trans s0
       have p1 := (hb2.cell (p := ⟨w.heap.size, 1, none⟩) (block_lt_of_cell s1)).trans s1
       have p2 := (hb2.cell (p := ⟨w.heap.size, 2, none⟩) (block_lt_of_cell s2)).trans s2
       have p3 := (hb2.cell (p := ⟨w.heap.size, 3, none⟩) (block_lt_of_cell s3)).trans s3
       have p4 := (hb2.cell (p := ⟨w.heap.size, 4, none⟩) (block_lt_of_cell s4)).trans s4
       have p5 := (hb2.cell (p := ⟨w.heap.size, 5, none⟩) (block_lt_of_cell s5)).trans s5
       have p6 := (hb2.cell (p := ⟨w.heap.size, 6, none⟩) (block_lt_of_cell s6)).trans s6
       have p7 := (hb2.cell (p := ⟨w.heap.size, 7, none⟩) (block_lt_of_cell s7)).trans s7
       have p8 := (hb2.cell (p := ⟨w.heap.size, 8, none⟩) (block_lt_of_cell s8)).trans s8
       have p9 := (hb2.cell (p := ⟨w.heap.size, 9, none⟩) (block_lt_of_cell s9)).trans s9
       have q0 := (hb2.cell (p := ⟨w.heap.size + 1, 0, none⟩) (block_lt_of_cell t0)).trans t0
       have q1 := (hb2.cell (p := ⟨w.heap.size + 1, 1, none⟩) (block_lt_of_cell t1)).trans t1
       have q2 := (hb2.cell (p := ⟨w.heap.size + 1, 2, none⟩) (block_lt_of_cell t2)).trans t2
       have q3 := (hb2.cell (p := ⟨w.heap.size + 1, 3, none⟩) (block_lt_of_cell t3)).trans t3
       have q4 := (hb2.cell (p := ⟨w.heap.size + 1, 4, none⟩) (block_lt_of_cell t4)).trans t4
       have q5 := (hb2.cell (p := ⟨w.heap.size + 1, 5, none⟩) (block_lt_of_cell t5)).trans t5
       have q6 := (hb2.cell (p := ⟨w.heap.size + 1, 6, none⟩) (block_lt_of_cell t6)).trans t6
       have q7 := (hb2.cell (p := ⟨w.heap.size + 1, 7, none⟩) (block_lt_of_cell t7)).trans t7
       have q8 := (hb2.cell (p := ⟨w.heap.size + 1, 8, none⟩) (block_lt_of_cell t8)).trans t8
       have q9 := (hb2.cell (p := ⟨w.heap.size + 1, 9, none⟩) (block_lt_of_cell t9)).trans t9
       have HB2 := Lib.hid (HB1.out.trans (hb2.mono HB1.out.size)); clear hb2 s0 s1 s2 s3 s4 s5 s6 s7 s8 s9 t0 t1 t2 t3 t4 t5 t6 t7 t8 t9)
    | (go_at_call 7; refine (lives10 _).mono ?_; rintro e w9 ⟨rfl, hb9⟩)
    | fail)
  · go_ret
    exact ⟨rfl, HB1.out.trans (hb9.mono HB1.out.size)⟩
  have hRX := (again_eq ix tm st kd cl rq fr ct da A bn bc ls ix2 tm2 st2 kd2 cl2 rq2 fr2 ct2 da2 A2 bn2 bc2 ls2).symm.trans HR.out
  have HRX := Lib.hid hRX
  clear hRX
  go_cut [6] (fun u wx => u = .bool R ∧ wx = w2)
  case first =>
    by_cases h1 : kd = 1
    · subst h1
      by_cases h2 : kd2 = 1
      · subst h2
        by_cases h3 : cl = cl2
        · subst h3
          by_cases h4 : rq = rq2
          · subst h4
            by_cases h5 : ix = ix2
            · subst h5
              go_wp2
              go_meet
              case rel => exact ⟨congrArg Value.bool (by rw [← HRX.out]; simp [*]), rfl⟩
            · have f5 : ((ix : Int) == (ix2 : Int)) = false := by simp; omega
              have g5 : (ix == ix2) = false := by simpa using h5
              clear h5
              go_wp2
              go_meet
              case rel => exact ⟨congrArg Value.bool (by rw [← HRX.out]; simp [*]), rfl⟩
          · have f4 : ((rq : Int) == (rq2 : Int)) = false := by simp; omega
            have g4 : (rq == rq2) = false := by simpa using h4
            clear h4
            go_wp2
            go_meet
            case rel => exact ⟨congrArg Value.bool (by rw [← HRX.out]; simp [*]), rfl⟩
        · have f3 : ((cl : Int) == (cl2 : Int)) = false := by simp; omega
          have g3 : (cl == cl2) = false := by simpa using h3
          clear h3
          go_wp2
          go_meet
          case rel => exact ⟨congrArg Value.bool (by rw [← HRX.out]; simp [*]), rfl⟩
      · have f2 : (kd2 == 1) = false := by simpa using h2
        clear h2
        go_wp2
        go_meet
        case rel => exact ⟨congrArg Value.bool (by rw [← HRX.out]; simp [*]), rfl⟩
    · have f1 : (kd == 1) = false := by simpa using h1
      clear h1
      go_wp2
      go_meet
      case rel => exact ⟨congrArg Value.bool (by rw [← HRX.out]; simp [*]), rfl⟩
  case rest =>
    obtain ⟨rfl, rfl⟩ := hcut
    have hV := HV.out
    by_cases h1 : tm2 < tm
    · have e1 : decide (tm2 < tm) = true := by simpa using h1
      have q1 : decide (tm ≤ tm2) = false := by simpa using h1
      by_cases h2 : st ≤ ix2
      · have e2 : decide (st ≤ ix2) = true := by simpa using h2
        have q2 : decide (ix2 < st) = false := by simpa using h2
        rw [e1, e2] at hV
        obtain rfl : V = true := by simpa using hV
        clear hV
        cases T
        · skip
          go_wp2_with (first
            | (go_at_call 12; refine (HTL.out _ HB2.out).mono ?_; rintro e w3 ⟨rfl, hb3⟩
               have c0 := (hb3.cell (p := ⟨w.heap.size, 2, none⟩) (block_lt_of_cell p2)).trans p2
               have c1 := (hb3.cell (p := ⟨w.heap.size + 1, 0, none⟩) (block_lt_of_cell q0)).trans q0
               have HB3 := Lib.hid (HB2.out.trans (hb3.mono HB2.out.size)); clear hb3)
            | (go_at_call 7; refine (lives10 _).mono ?_; rintro e w9 ⟨rfl, hb9⟩)
            | fail)
          go_ret
          exact ⟨rfl, HB3.out.trans (hb9.mono HB3.out.size)⟩
        · skip
          go_wp2_with (first
            | (go_at_call 12; refine (HTL.out _ HB2.out).mono ?_; rintro e w3 ⟨rfl, hb3⟩
               have c0 := (hb3.cell (p := ⟨w.heap.size, 2, none⟩) (block_lt_of_cell p2)).trans p2
               have c1 := (hb3.cell (p := ⟨w.heap.size + 1, 0, none⟩) (block_lt_of_cell q0)).trans q0
               have HB3 := Lib.hid (HB2.out.trans (hb3.mono HB2.out.size)); clear hb3)
            | (go_at_call 7; refine (lives10 _).mono ?_; rintro e w9 ⟨rfl, hb9⟩)
            | fail)
          go_ret
          exact ⟨rfl, HB3.out.trans (hb9.mono HB3.out.size)⟩
      · have e2 : decide (st ≤ ix2) = false := by simpa using h2
        have q2 : decide (ix2 < st) = true := by simpa using h2
        rw [e1, e2] at hV
        cases R
        · cases T
          · clear hV
            cases V
            · skip
              go_wp2_with (first
                | (go_at_call 12; refine (HTL.out _ HB2.out).mono ?_; rintro e w3 ⟨rfl, hb3⟩
                   have c0 := (hb3.cell (p := ⟨w.heap.size, 2, none⟩) (block_lt_of_cell p2)).trans p2
                   have c1 := (hb3.cell (p := ⟨w.heap.size + 1, 0, none⟩) (block_lt_of_cell q0)).trans q0
                   have HB3 := Lib.hid (HB2.out.trans (hb3.mono HB2.out.size)); clear hb3)
                | (go_at_call 7; refine (lives10 _).mono ?_; rintro e w9 ⟨rfl, hb9⟩)
                | fail)
              go_ret
              exact ⟨rfl, HB3.out.trans (hb9.mono HB3.out.size)⟩
            · skip
              go_wp2_with (first
                | (go_at_call 12; refine (HTL.out _ HB2.out).mono ?_; rintro e w3 ⟨rfl, hb3⟩
                   have c0 := (hb3.cell (p := ⟨w.heap.size, 2, none⟩) (block_lt_of_cell p2)).trans p2
                   have c1 := (hb3.cell (p := ⟨w.heap.size + 1, 0, none⟩) (block_lt_of_cell q0)).trans q0
                   have HB3 := Lib.hid (HB2.out.trans (hb3.mono HB2.out.size)); clear hb3)
                | (go_at_call 7; refine (lives10 _).mono ?_; rintro e w9 ⟨rfl, hb9⟩)
                | fail)
              go_ret
              exact ⟨rfl, HB3.out.trans (hb9.mono HB3.out.size)⟩
          · obtain rfl : V = false := by simpa using hV
            clear hV
            go_wp2_with (first
              | (go_at_call 12; refine (HTL.out _ HB2.out).mono ?_; rintro e w3 ⟨rfl, hb3⟩
                 have c0 := (hb3.cell (p := ⟨w.heap.size, 2, none⟩) (block_lt_of_cell p2)).trans p2
                 have c1 := (hb3.cell (p := ⟨w.heap.size + 1, 0, none⟩) (block_lt_of_cell q0)).trans q0
                 have HB3 := Lib.hid (HB2.out.trans (hb3.mono HB2.out.size)); clear hb3)
              | (go_at_call 7; refine (lives10 _).mono ?_; rintro e w9 ⟨rfl, hb9⟩)
              | fail)
            go_ret
            exact ⟨rfl, HB3.out.trans (hb9.mono HB3.out.size)⟩
        · obtain rfl : V = true := by simpa using hV
          clear hV
          cases T
          · skip
            go_wp2_with (first
              | (go_at_call 12; refine (HTL.out _ HB2.out).mono ?_; rintro e w3 ⟨rfl, hb3⟩
                 have c0 := (hb3.cell (p := ⟨w.heap.size, 2, none⟩) (block_lt_of_cell p2)).trans p2
                 have c1 := (hb3.cell (p := ⟨w.heap.size + 1, 0, none⟩) (block_lt_of_cell q0)).trans q0
                 have HB3 := Lib.hid (HB2.out.trans (hb3.mono HB2.out.size)); clear hb3)
              | (go_at_call 7; refine (lives10 _).mono ?_; rintro e w9 ⟨rfl, hb9⟩)
              | fail)
            go_ret
            exact ⟨rfl, HB3.out.trans (hb9.mono HB3.out.size)⟩
          · skip
            go_wp2_with (first
              | (go_at_call 12; refine (HTL.out _ HB2.out).mono ?_; rintro e w3 ⟨rfl, hb3⟩
                 have c0 := (hb3.cell (p := ⟨w.heap.size, 2, none⟩) (block_lt_of_cell p2)).trans p2
                 have c1 := (hb3.cell (p := ⟨w.heap.size + 1, 0, none⟩) (block_lt_of_cell q0)).trans q0
                 have HB3 := Lib.hid (HB2.out.trans (hb3.mono HB2.out.size)); clear hb3)
              | (go_at_call 7; refine (lives10 _).mono ?_; rintro e w9 ⟨rfl, hb9⟩)
              | fail)
            go_ret
            exact ⟨rfl, HB3.out.trans (hb9.mono HB3.out.size)⟩
    · have e1 : decide (tm2 < tm) = false := by simpa using h1
      have q1 : decide (tm ≤ tm2) = true := by simpa using h1
      rw [e1] at hV
      obtain rfl : V = false := by simpa using hV
      clear hV
      go_wp2_with (first
        | (go_at_call 12; refine (HTL.out _ HB2.out).mono ?_; rintro e w3 ⟨rfl, hb3⟩
           have c0 := (hb3.cell (p := ⟨w.heap.size, 2, none⟩) (block_lt_of_cell p2)).trans p2
           have c1 := (hb3.cell (p := ⟨w.heap.size + 1, 0, none⟩) (block_lt_of_cell q0)).trans q0
           have HB3 := Lib.hid (HB2.out.trans (hb3.mono HB2.out.size)); clear hb3)
        | (go_at_call 7; refine (lives10 _).mono ?_; rintro e w9 ⟨rfl, hb9⟩)
        | fail)
      go_ret
      exact ⟨rfl, HB2.out.trans (hb9.mono HB2.out.size)⟩

namespace behindVoids
open Go.ChangeShapes Go.WideShapes Go.ChangeAt
set_option maxRecDepth 100000 in
theorem lifted (os : Os) (started : os.Started) (H : Type) (enc : TypeId × Value → H) :
    ReturnsInHanded {} Try.checked os 5 .any (Rows.behindVoidsSpec.pre6 enc Try.prog Try.f5 Rows.behindVoidsRow.domain false) (Rows.behindVoidsSpec.post enc Try.prog Try.f5 false true false false) := by
  refine returnsInHanded_of_change (C := Try.checked) own started (by kernel_rfl) Try.func5
    (ChangeSpec.witness6 (enc := enc) (C := Try.checked) false ⟨#[], #[.agg #[.int .u64 0, .int .u64 0, .int .u64 0, .int .i64 0, .int .u64 0, .int .u64 0, .int .u32 0, .int .u32 0, .string ⟨#[]⟩, .slice none 0 0], .agg #[.int .u64 0, .int .u64 0, .int .u64 0, .int .i64 0, .int .u64 0, .int .u64 0, .int .u32 0, .int .u32 0, .string ⟨#[]⟩, .slice none 0 0]], []⟩ 8 (by kernel_rfl) (by kernel_rfl) (by kernel_rfl) (by kernel_rfl)) ?_
  intro W base args ds gs before hval0 hW _ _
  have hval : ∀ (j : Nat) t v, Try.f5.params[j]? = some t → args[j]? = some v → Value.okWide Try.prog W .any base t v := hval0
  have hW' := hW
  obtain ⟨p, q, hA0, hV, rfl, hfz, hnd⟩ := hW
  have hA : DataW.TrodAll enc Try.prog W 0 (fun _ => true) true Try.f5.params.toList args.toList ds p := hA0
  rw [Try.params5] at hA hval
  obtain ⟨v0, vs0, d0, ds0, p0, q0, hargs, rfl, rfl, h0, r0⟩ := trodAll_cons hA
  obtain ⟨v1, vs1, d1, ds1, p1, q1, rfl, rfl, rfl, h1, r1⟩ := trodAll_cons r0
  obtain ⟨rfl, rfl, rfl⟩ := trodAll_nil r1
  obtain rfl : args = #[v0, v1] := by cases args; simp_all
  obtain ⟨rfl, rfl⟩ := trodVars_none hV
  have k0 := h0
  have lt0 : ∀ x ∈ p0, x.block < W.heap.size := by obtain ⟨m, hm⟩ := k0; exact DataW.trod_lt m _ _ _ hm
  obtain ⟨o0, rfl, w0⟩ := dec_entry entryT (hval 0 28 v0 rfl rfl) h0
  have k1 := h1
  have lt1 : ∀ x ∈ p1, x.block < W.heap.size := by obtain ⟨m, hm⟩ := k1; exact DataW.trod_lt m _ _ _ hm
  obtain ⟨o1, rfl, w1⟩ := dec_entry entryT (hval 1 28 v1 rfl rfl) h1
  clear hA0 hval0
  refine (behindVoids_walk o0 w0 o1 w1).mono fun e W' ⟨he, bel⟩ => ?_
  subst he
  exact ⟨_, rfl, _, _, _, [], _, [], hW', trodAll_mk1 (shut_bool Try.underlying4 _), (trodAll_cons_mk (Below.trod laidOut (by kernel_rfl) (of_decide_eq_true (by kernel_rfl)) k0 bel lt0) (trodAll_cons_mk (Below.trod laidOut (by kernel_rfl) (of_decide_eq_true (by kernel_rfl)) k1 bel lt1) trodAll_mk0)), rfl, bel.frame _, fun h => by cases h⟩

theorem over : Rows.behindVoidsRow.holds Try.pinned (OpenSpec.ofChange Rows.behindVoidsSpec) :=
  OpenClaim.holds_of_wide 5 Try.f5 rfl rfl rfl rfl rfl rfl rfl ⟨rfl, rfl, rfl, rfl, rfl⟩ rfl rfl rfl rfl rfl (by kernel_rfl) Try.func5 (by kernel_rfl)
    (of_decide_eq_true (by kernel_rfl)) (by unfold Func.isWrapper; first | (rw [if_pos (by decide +kernel)]; kernel_rfl) | (rw [if_neg (by decide +kernel)]; exact ⟨rfl, rfl⟩))
    (fun os started H enc _ => lifted os started H enc)
/-- The given statement. -/
theorem proved : Rows.BehindVoidsSaid := over
end behindVoids

end Go.Proofs.Ytdaniaijlkflcaa
