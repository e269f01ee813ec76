/- light: whether calls are few, and small. Marks are told. A store that no call made. -/
import Derived.Test.YtpalmobmabkadaaGreatDoorSlgM
namespace Go.Proofs.YtpalmobmabkadaaGreatDoor
open Go.RowKit
set_option maxRecDepth 20000

theorem O16.at31 (o : O16) : o.list[31]? = some (.slice o.kA o.kn o.kc) := by
  have h1 := icells_19 o.i8
  unfold O16.list
  rw [List.getElem?_cons_succ, List.getElem?_append_right (by show 10 ≤ 30; decide)]
  show (icells o.i ++ [Value.int .i64 o.fu, .slice o.kA o.kn o.kc])[20]? = _
  rw [List.getElem?_append_right (by omega), h1]
  rfl
theorem O16.at13 (o : O16) : o.list[13]? = some (.string (str o.i.l)) := rfl
theorem O16.atE (o : O16) (j : Nat) (u : Value) (h : (e16cs o.e)[j]? = some u) : o.list[1 + j]? = some u := by
  have hj := (List.getElem?_eq_some_iff.1 h).1
  rw [Nat.add_comm]
  unfold O16.list
  rw [List.getElem?_cons_succ, List.getElem?_append_left hj]
  exact h
theorem O16.atI (o : O16) (j : Nat) (u : Value) (h : (icells o.i)[j]? = some u) : o.list[11 + j]? = some u := by
  have hj := (List.getElem?_eq_some_iff.1 h).1
  rw [show 11 + j = 10 + j + 1 by omega]
  unfold O16.list
  rw [List.getElem?_cons_succ, List.getElem?_append_right (by show 10 ≤ 10 + j; omega)]
  show (icells o.i ++ [Value.int .i64 o.fu, .slice o.kA o.kn o.kc])[10 + j - 10]? = _
  rw [Nat.add_sub_cancel_left, List.getElem?_append_left hj]
  exact h
/-- A call is small. -/
def O16.Small (o : O16) : Prop := o.e.data.length ≤ 20000 ∧ o.e.bl ≤ 200 ∧ o.i.l.length ≤ 1000 ∧ o.kn ≤ 200
def Few16 (os : List O16) : Prop := os.length ≤ 40 ∧ ∀ o ∈ os, o.Small
def LAns16 (w : World) (os : List O16) (e : Ending) (w' : World) : Prop := ∃ b, e = .returned (.bool b) ∧ (b = true → Few16 os) ∧ Below w.heap.size w w'
theorem row_at {w : World} {b : Nat} {o : O16} (h : w.heap[b]? = some (.cells o.list.toArray 50 (0, 0))) (i : Nat) (u : Value) (hu : o.list[i]? = some u) : w.cell? ⟨b, i, none⟩ = some u := by
  rw [cell_of_row w b i _ _ _ h, List.getElem?_toArray]
  exact hu
theorem row_e {w : World} {b : Nat} {o : O16} (h : w.heap[b]? = some (.cells o.list.toArray 50 (0, 0))) : w.rangeAt b 1 (e16cs o.e) := fun j u hu => row_at h _ u (o.atE j u hu)
theorem row_i {w : World} {b : Nat} {o : O16} (h : w.heap[b]? = some (.cells o.list.toArray 50 (0, 0))) : w.rangeAt b 11 (icells o.i) := fun j u hu => row_at h _ u (o.atI j u hu)
set_option maxHeartbeats 4000000 in
theorem light16_any {w : World} {A : Option Addr} {n c : Nat} {os : List O16} (h : Slc O16.lay w A n c os) :
    Calls Tryz.prog 8 #[.slice A n c] w (LAns16 w os) := by
  have hcap := h.rd.2.1
  have hnc := h.rd.1
  have hnm : (n : Int) ≤ 9223372036854775807 := by unfold maxLen at hcap; omega
  have HH := Lib.hid h
  clear h hcap hnc
  go_enter Tryz.func8, Tryz.ntmps8
  go_wp2
  go_loopw [4, 7] (fun _ ir wr => ∃ i : Nat, i ≤ n ∧ ir = .int .i64 (i : Int) ∧ (∀ j o, j < i → os[j]? = some o → o.Small) ∧ Below w.heap.size w wr) (fun _ ir _ => n - (intOf ir).toNat)
  case atStart => exact ⟨0, Nat.zero_le _, rfl, fun j o hj => absurd hj (Nat.not_lt_zero _), Below.refl _ _⟩
  case round =>
    obtain ⟨i, hi, rfl, hall, hb⟩ := hrel
    have HA := Lib.hid hall
    have HB := Lib.hid hb
    clear hall hb
    by_cases hlt : i < n
    · obtain ⟨p, hp⟩ : ∃ p, os[i]? = some p := ⟨_, List.getElem?_eq_getElem (by have := HH.out.len; omega)⟩
      obtain ⟨b, o, rfl, hbb, hcc⟩ := HH.out.at_ (by omega)
      have hrg : wr.rangeAt b (o + i * 32) p.list := fun j u hu => by
        rw [Nat.add_assoc]
        exact (HB.out.cell (p := ⟨b, o + (i * 32 + j), none⟩) hbb).trans (hcc i p hp j u (by rw [← hu]; exact List.getElem?_toArray))
      have HRG := Lib.hid hrg
      have hlti : (i : Int) < (n : Int) := by omega
      have hin : (i : Int) ≤ 9223372036854775806 := by omega
      have HP := Lib.hid hp
      have HL := Lib.hid (fun W => light9_any p.e W)
      have hsz : (str p.i.l).size = p.i.l.length := List.size_toArray
      clear hcc hp hrg
      by_cases hl : (decide (p.e.data.length ≤ 20000) && decide (p.e.bl ≤ 200)) = true
      · rw [hl] at HL
        have HE := Lib.hid hl
        clear hl
        by_cases h1 : p.i.l.length ≤ 1000
        · by_cases h2 : p.kn ≤ 200
          · have d1 : decide ((1000 : Int) < (p.i.l.length : Int)) = false := by simp; omega
            have d2 : decide ((200 : Int) < (p.kn : Int)) = false := by simp; omega
            have H12 := Lib.hid (And.intro h1 h2)
            clear h1 h2
            go_wp2_with (first
          | (refine wpList_load_mid rfl _ _ rfl b (o + i * 32) rfl p.list _ HRG.out Tryz.underlying50 rfl (by rw [op_size, O16.len]) ?_)
          | (refine wpL_newrow (cs := O16.zero.list) rfl rfl zero_op ?_; intro W4 b4 hN; obtain ⟨hb4, hr4, hl4, hz4⟩ := hN)
          | (refine wpL_storerow rfl (.tmp 4) (.tmp 10) rfl rfl rfl hr4.out (by rw [op_size, O16.len]) (by rw [O16.len, O16.len]) p.one ?_; intro W5 hr5 hg5 hz5
             have HB5 := Lib.hid (HB.out.trans ((hl4.grown hg5 hl4.size (fun k e => by cases e; have := hb4.out; omega)).mono HB.out.size))
             have x1 := row_at hr5.out 1 (.int .u64 (p.e.ix : Int)) rfl
             have x2 := row_at hr5.out 2 (.int .u64 (p.e.tm : Int)) rfl
             have x3 := row_at hr5.out 3 (.int .u64 (p.e.st : Int)) rfl
             have x4 := row_at hr5.out 4 (.int .i64 p.e.kind) rfl
             have x5 := row_at hr5.out 5 (.int .u64 (p.e.cl : Int)) rfl
             have x6 := row_at hr5.out 6 (.int .u64 (p.e.rq : Int)) rfl
             have x7 := row_at hr5.out 7 (.int .u32 (p.e.f : Int)) rfl
             have x8 := row_at hr5.out 8 (.int .u32 (p.e.c : Int)) rfl
             have x9 := row_at hr5.out 9 (.string (str p.e.data)) rfl
             have x10 := row_at hr5.out 10 (.slice p.e.A p.e.bl p.e.bc) rfl)
          | (go_at_call 18; go_loud (refine (HL.out _).mono ?_); rintro e1 w6 ⟨rfl, hb6⟩
             clear x1 x2 x3 x4 x5 x6 x7 x8 x9 x10
             have HB6 := Lib.hid (HB5.out.trans (hb6.mono HB5.out.size))
             have y13 := (hb6.cell (p := ⟨b4, 13, none⟩) (Array.getElem?_eq_some_iff.1 hr5.out).1).trans (row_at hr5.out 13 _ p.at13)
             have y31 := (hb6.cell (p := ⟨b4, 31, none⟩) (Array.getElem?_eq_some_iff.1 hr5.out).1).trans (row_at hr5.out 31 _ p.at31))
          | fail)
            go_roundw
            case rel => exact ⟨i + 1, by omega, by go_num, fun j q hj hq => by
              rcases Nat.lt_or_ge j i with h1 | h1
              · exact HA.out j q h1 hq
              · obtain rfl : j = i := by omega
                rw [HP.out] at hq
                cases hq
                have := HE.out
                simp only [Bool.and_eq_true, decide_eq_true_eq] at this
                exact ⟨this.1, this.2, H12.out.1, H12.out.2⟩, HB6.out⟩
            case measure => simp [intOf]; omega
          · have d1 : decide ((1000 : Int) < (p.i.l.length : Int)) = false := by simp; omega
            have d2 : decide ((200 : Int) < (p.kn : Int)) = true := by simp; omega
            clear h1 h2
            go_wp2_with (first
          | (refine wpList_load_mid rfl _ _ rfl b (o + i * 32) rfl p.list _ HRG.out Tryz.underlying50 rfl (by rw [op_size, O16.len]) ?_)
          | (refine wpL_newrow (cs := O16.zero.list) rfl rfl zero_op ?_; intro W4 b4 hN; obtain ⟨hb4, hr4, hl4, hz4⟩ := hN)
          | (refine wpL_storerow rfl (.tmp 4) (.tmp 10) rfl rfl rfl hr4.out (by rw [op_size, O16.len]) (by rw [O16.len, O16.len]) p.one ?_; intro W5 hr5 hg5 hz5
             have HB5 := Lib.hid (HB.out.trans ((hl4.grown hg5 hl4.size (fun k e => by cases e; have := hb4.out; omega)).mono HB.out.size))
             have x1 := row_at hr5.out 1 (.int .u64 (p.e.ix : Int)) rfl
             have x2 := row_at hr5.out 2 (.int .u64 (p.e.tm : Int)) rfl
             have x3 := row_at hr5.out 3 (.int .u64 (p.e.st : Int)) rfl
             have x4 := row_at hr5.out 4 (.int .i64 p.e.kind) rfl
             have x5 := row_at hr5.out 5 (.int .u64 (p.e.cl : Int)) rfl
             have x6 := row_at hr5.out 6 (.int .u64 (p.e.rq : Int)) rfl
             have x7 := row_at hr5.out 7 (.int .u32 (p.e.f : Int)) rfl
             have x8 := row_at hr5.out 8 (.int .u32 (p.e.c : Int)) rfl
             have x9 := row_at hr5.out 9 (.string (str p.e.data)) rfl
             have x10 := row_at hr5.out 10 (.slice p.e.A p.e.bl p.e.bc) rfl)
          | (go_at_call 18; go_loud (refine (HL.out _).mono ?_); rintro e1 w6 ⟨rfl, hb6⟩
             clear x1 x2 x3 x4 x5 x6 x7 x8 x9 x10
             have HB6 := Lib.hid (HB5.out.trans (hb6.mono HB5.out.size))
             have y13 := (hb6.cell (p := ⟨b4, 13, none⟩) (Array.getElem?_eq_some_iff.1 hr5.out).1).trans (row_at hr5.out 13 _ p.at13)
             have y31 := (hb6.cell (p := ⟨b4, 31, none⟩) (Array.getElem?_eq_some_iff.1 hr5.out).1).trans (row_at hr5.out 31 _ p.at31))
          | fail)
            go_ret
            exact ⟨_, rfl, (fun h => by cases h), HB6.out⟩
        · have d1 : decide ((1000 : Int) < (p.i.l.length : Int)) = true := by simp; omega
          clear h1
          go_wp2_with (first
          | (refine wpList_load_mid rfl _ _ rfl b (o + i * 32) rfl p.list _ HRG.out Tryz.underlying50 rfl (by rw [op_size, O16.len]) ?_)
          | (refine wpL_newrow (cs := O16.zero.list) rfl rfl zero_op ?_; intro W4 b4 hN; obtain ⟨hb4, hr4, hl4, hz4⟩ := hN)
          | (refine wpL_storerow rfl (.tmp 4) (.tmp 10) rfl rfl rfl hr4.out (by rw [op_size, O16.len]) (by rw [O16.len, O16.len]) p.one ?_; intro W5 hr5 hg5 hz5
             have HB5 := Lib.hid (HB.out.trans ((hl4.grown hg5 hl4.size (fun k e => by cases e; have := hb4.out; omega)).mono HB.out.size))
             have x1 := row_at hr5.out 1 (.int .u64 (p.e.ix : Int)) rfl
             have x2 := row_at hr5.out 2 (.int .u64 (p.e.tm : Int)) rfl
             have x3 := row_at hr5.out 3 (.int .u64 (p.e.st : Int)) rfl
             have x4 := row_at hr5.out 4 (.int .i64 p.e.kind) rfl
             have x5 := row_at hr5.out 5 (.int .u64 (p.e.cl : Int)) rfl
             have x6 := row_at hr5.out 6 (.int .u64 (p.e.rq : Int)) rfl
             have x7 := row_at hr5.out 7 (.int .u32 (p.e.f : Int)) rfl
             have x8 := row_at hr5.out 8 (.int .u32 (p.e.c : Int)) rfl
             have x9 := row_at hr5.out 9 (.string (str p.e.data)) rfl
             have x10 := row_at hr5.out 10 (.slice p.e.A p.e.bl p.e.bc) rfl)
          | (go_at_call 18; go_loud (refine (HL.out _).mono ?_); rintro e1 w6 ⟨rfl, hb6⟩
             clear x1 x2 x3 x4 x5 x6 x7 x8 x9 x10
             have HB6 := Lib.hid (HB5.out.trans (hb6.mono HB5.out.size))
             have y13 := (hb6.cell (p := ⟨b4, 13, none⟩) (Array.getElem?_eq_some_iff.1 hr5.out).1).trans (row_at hr5.out 13 _ p.at13)
             have y31 := (hb6.cell (p := ⟨b4, 31, none⟩) (Array.getElem?_eq_some_iff.1 hr5.out).1).trans (row_at hr5.out 31 _ p.at31))
          | fail)
          go_ret
          exact ⟨_, rfl, (fun h => by cases h), HB6.out⟩
      · rw [eq_false_of_ne_true hl] at HL
        clear hl
        go_wp2_with (first
          | (refine wpList_load_mid rfl _ _ rfl b (o + i * 32) rfl p.list _ HRG.out Tryz.underlying50 rfl (by rw [op_size, O16.len]) ?_)
          | (refine wpL_newrow (cs := O16.zero.list) rfl rfl zero_op ?_; intro W4 b4 hN; obtain ⟨hb4, hr4, hl4, hz4⟩ := hN)
          | (refine wpL_storerow rfl (.tmp 4) (.tmp 10) rfl rfl rfl hr4.out (by rw [op_size, O16.len]) (by rw [O16.len, O16.len]) p.one ?_; intro W5 hr5 hg5 hz5
             have HB5 := Lib.hid (HB.out.trans ((hl4.grown hg5 hl4.size (fun k e => by cases e; have := hb4.out; omega)).mono HB.out.size))
             have x1 := row_at hr5.out 1 (.int .u64 (p.e.ix : Int)) rfl
             have x2 := row_at hr5.out 2 (.int .u64 (p.e.tm : Int)) rfl
             have x3 := row_at hr5.out 3 (.int .u64 (p.e.st : Int)) rfl
             have x4 := row_at hr5.out 4 (.int .i64 p.e.kind) rfl
             have x5 := row_at hr5.out 5 (.int .u64 (p.e.cl : Int)) rfl
             have x6 := row_at hr5.out 6 (.int .u64 (p.e.rq : Int)) rfl
             have x7 := row_at hr5.out 7 (.int .u32 (p.e.f : Int)) rfl
             have x8 := row_at hr5.out 8 (.int .u32 (p.e.c : Int)) rfl
             have x9 := row_at hr5.out 9 (.string (str p.e.data)) rfl
             have x10 := row_at hr5.out 10 (.slice p.e.A p.e.bl p.e.bc) rfl)
          | (go_at_call 18; go_loud (refine (HL.out _).mono ?_); rintro e1 w6 ⟨rfl, hb6⟩
             clear x1 x2 x3 x4 x5 x6 x7 x8 x9 x10
             have HB6 := Lib.hid (HB5.out.trans (hb6.mono HB5.out.size))
             have y13 := (hb6.cell (p := ⟨b4, 13, none⟩) (Array.getElem?_eq_some_iff.1 hr5.out).1).trans (row_at hr5.out 13 _ p.at13)
             have y31 := (hb6.cell (p := ⟨b4, 31, none⟩) (Array.getElem?_eq_some_iff.1 hr5.out).1).trans (row_at hr5.out 31 _ p.at31))
          | fail)
        go_ret
        exact ⟨_, rfl, (fun h => by cases h), HB6.out⟩
    · obtain rfl : i = n := by omega
      by_cases h40 : i ≤ 40
      · have hf : Few16 os := ⟨by have := HH.out.len; omega, fun o ho => by
          obtain ⟨j, hj⟩ := List.getElem?_of_mem ho
          exact HA.out j o (by have h1 := (List.getElem?_eq_some_iff.1 hj).1; have := HH.out.len; omega) hj⟩
        have d1 : decide ((i : Int) ≤ 40) = true := by simp; omega
        have HF := Lib.hid hf
        clear hf h40
        go_wp2
        go_ret
        exact ⟨_, rfl, fun _ => HF.out, HB.out⟩
      · have d1 : decide ((i : Int) ≤ 40) = false := by simp; omega
        clear h40
        go_wp2
        go_ret
        exact ⟨_, rfl, (fun h => by cases h), HB.out⟩
end Go.Proofs.YtpalmobmabkadaaGreatDoor

namespace Go.Proofs.YtpalmobmabkadaaGreatDoor
open Go.RowKit
set_option maxRecDepth 20000
theorem smarks_nil (w : World) : Calls Tryz.prog 28 #[.pointer none] w fun e w' => e = .returned (.agg #[.int .u64 0, .int .u64 0]) ∧ Below w.heap.size w w' := by
  go_enter Tryz.func28, Tryz.ntmps28
  go_wp2
  refine bodyPost_ret (v := .agg #[.int .u64 0, .int .u64 0]) (by simp [results, Tryz.results28, go_sem]) rfl ⟨rfl, ?_⟩
  exact (Below.refl _ _).alloc (Nat.le_refl _) _
theorem smarks_any {w : World} {S : Nat} {g T : Option Addr} {bn bs : Option Nat} {v : Sv} (h : Srow w S g T bn bs v) : Calls Tryz.prog 28 #[.pointer (some ⟨S, 0, none⟩)] w fun e w' => e = .returned (.agg #[.int .u64 (v.L : Int), .int .u64 (v.B : Int)]) ∧ Below w.heap.size w w' := by
  have hb := (Below.refl w.heap.size w).alloc (Nat.le_refl _) (.cells #[.int .u64 0, .int .u64 0] 36)
  have c4 := (h.below hb).c4
  have c5 := (h.below hb).c5
  go_enter Tryz.func28, Tryz.ntmps28
  go_wp2
  refine bodyPost_ret (v := .agg #[.int .u64 (v.L : Int), .int .u64 (v.B : Int)]) (by simp [results, Tryz.results28, go_sem]) rfl ⟨rfl, ?_⟩
  exact (Below.refl _ _).alloc (Nat.le_refl _) _
end Go.Proofs.YtpalmobmabkadaaGreatDoor

namespace Go.Proofs.YtpalmobmabkadaaGreatDoor
open Go.RowKit
set_option maxRecDepth 20000
theorem ssave_nil (w : World) : Calls Tryz.prog 26 #[.pointer none] w fun e w' => e = .returned (.int .i64 1) ∧ Below w.heap.size w w' := by
  go_enter Tryz.func26, Tryz.ntmps26
  go_wp2_with (go_at_call 48; refine (sopen_nil _).mono ?_; rintro e w1 ⟨rfl, rfl⟩)
  go_ret
  exact ⟨rfl, Below.refl _ _⟩
theorem ssave_bare {w : World} {S : Nat} {T : Option Addr} {bn bs : Option Nat} {v : Sv} (h : Srow w S none T bn bs v) : Calls Tryz.prog 26 #[.pointer (some ⟨S, 0, none⟩)] w fun e w' => e = .returned (.int .i64 1) ∧ Below w.heap.size w w' := by
  go_enter Tryz.func26, Tryz.ntmps26
  go_wp2_with (go_at_call 48; refine (sopen_bare h).mono ?_; rintro e w1 ⟨rfl, rfl⟩)
  go_ret
  exact ⟨rfl, Below.refl _ _⟩
set_option maxHeartbeats 2000000 in
theorem sapply_nil (e0 : E16) (w : World) : Calls Tryz.prog 20 #[.pointer none, e16v e0] w fun e w' => e = .returned (.int .i64 1) ∧ Below w.heap.size w w' := by
  unfold e16v
  go_enter Tryz.func20, Tryz.ntmps20
  go_wp2_with (go_at_call 48; refine (sopen_nil _).mono ?_; rintro e w1 ⟨rfl, rfl⟩)
  go_ret
  exact ⟨rfl, (Below.refl _ _).alloc (Nat.le_refl _) _⟩
set_option maxHeartbeats 2000000 in
theorem sapply_bare {w : World} {S : Nat} {T : Option Addr} {bn bs : Option Nat} {v : Sv} (h : Srow w S none T bn bs v) (e0 : E16) : Calls Tryz.prog 20 #[.pointer (some ⟨S, 0, none⟩), e16v e0] w fun e w' => e = .returned (.int .i64 1) ∧ Below w.heap.size w w' := by
  have HR := Lib.hid h
  have HA := Lib.hid (fun o => (Below.refl w.heap.size w).alloc (Nat.le_refl _) o)
  unfold e16v
  go_enter Tryz.func20, Tryz.ntmps20
  go_wp2_with (go_at_call 48; refine (sopen_bare (HR.out.below (HA.out _))).mono ?_; rintro e w1 ⟨rfl, rfl⟩)
  go_ret
  exact ⟨rfl, HA.out _⟩
set_option maxHeartbeats 2000000 in
theorem sReads_bare {w : World} {S : Nat} {T : Option Addr} {bn bs : Option Nat} {v : Sv} (h : Srow w S none T bn bs v) (f c : Nat) : Calls Tryz.prog 25 #[.pointer (some ⟨S, 0, none⟩), spanv f c] w fun e w' => e = .returned (.tuple #[.string ⟨#[]⟩, .int .i64 1]) ∧ Below w.heap.size w w' := by
  have HR := Lib.hid h
  have HA := Lib.hid (fun o => (Below.refl w.heap.size w).alloc (Nat.le_refl _) o)
  unfold spanv
  go_enter Tryz.func25, Tryz.ntmps25
  go_wp2_with (go_at_call 48; refine (sopen_bare (HR.out.below (HA.out _))).mono ?_; rintro e w1 ⟨rfl, rfl⟩)
  go_ret2
  exact ⟨rfl, HA.out _⟩
set_option maxHeartbeats 2000000 in
theorem simport_nil (i : Im) (w : World) : Calls Tryz.prog 27 #[.pointer none, imv i] w fun e w' => e = .returned (.int .i64 1) ∧ Below w.heap.size w w' := by
  go_enter Tryz.func27, Tryz.ntmps27
  go_wp2_with (first
    | (refine wpL_rbox (cs := icells i) rfl (.tmp 1) rfl rfl ?_; intro W b hN; obtain ⟨hb, hr, hl1, hz⟩ := hN)
    | (go_at_call 48; refine (sopen_nil _).mono ?_; rintro e w1 ⟨rfl, rfl⟩)
    | fail)
  go_ret
  exact ⟨rfl, hl1⟩
set_option maxHeartbeats 2000000 in
theorem simport_bare {w : World} {S : Nat} {T : Option Addr} {bn bs : Option Nat} {v : Sv} (h : Srow w S none T bn bs v) (i : Im) : Calls Tryz.prog 27 #[.pointer (some ⟨S, 0, none⟩), imv i] w fun e w' => e = .returned (.int .i64 1) ∧ Below w.heap.size w w' := by
  have HR := Lib.hid h
  go_enter Tryz.func27, Tryz.ntmps27
  go_wp2_with (first
    | (refine wpL_rbox (cs := icells i) rfl (.tmp 1) rfl rfl ?_; intro W b hN; obtain ⟨hb, hr, hl1, hz⟩ := hN)
    | (go_at_call 48; refine (sopen_bare (HR.out.below hl1)).mono ?_; rintro e w1 ⟨rfl, rfl⟩)
    | fail)
  go_ret
  exact ⟨rfl, hl1⟩
set_option maxHeartbeats 2000000 in
theorem simage_nil (w : World) : Calls Tryz.prog 17 #[.pointer none] w fun e w' => e = .returned (.tuple #[imv I0, .int .i64 1]) ∧ Below w.heap.size w w' := by
  go_enter Tryz.func17, Tryz.ntmps17
  go_wp2_with (first
    | (refine imA.wpNew rfl rfl ?_; intro W b hN; obtain ⟨hb, hr, hl1, hz⟩ := hN)
    | (refine imA.wpBuild rfl rfl ?_)
    | (go_at_call 23; refine (sblocks_nil _).mono ?_; rintro e w1 ⟨rfl, rfl⟩)
    | (go_at_call 25; refine (sReads_nil 0 0 _).mono ?_; rintro e w1 ⟨rfl, hb1⟩
       have hbW : b < W.heap.size := by have := hz.out; omega
       have hr1 := below_row hb1 hr.out hbW
       have hl2 := hl1.trans (hb1.mono hl1.size)
       have hbw : w.heap.size ≤ b := by have := hb.out; omega)
    | (refine imA.wpStore (i := I0) (j := I0) rfl (.tmp 2) (.tmp 16) rfl rfl rfl hr1 rfl rfl ?_; intro W2 hr2 hg2 hz2)
    | fail)
  refine bodyPost_ret (results_cell_tmp (fn := Tryz.f17) rfl _ b 43 _ (0, 0) _ rfl hr2.out imA.und rfl (by rw [imA.size]; simp [icells_19 (i := I0) rfl])) rfl ⟨rfl, hl2.grown hg2 hl2.size (fun k e => by cases e; exact hbw)⟩
set_option maxHeartbeats 2000000 in
theorem simage_bare {w : World} {S : Nat} {T : Option Addr} {bn bs : Option Nat} {v : Sv} (h : Srow w S none T bn bs v) : Calls Tryz.prog 17 #[.pointer (some ⟨S, 0, none⟩)] w fun e w' => e = .returned (.tuple #[imv I0, .int .i64 1]) ∧ Below w.heap.size w w' := by
  have HR := Lib.hid h
  go_enter Tryz.func17, Tryz.ntmps17
  go_wp2_with (first
    | (refine imA.wpNew rfl rfl ?_; intro W b hN; obtain ⟨hb, hr, hl1, hz⟩ := hN)
    | (refine imA.wpBuild rfl rfl ?_)
    | (go_at_call 23; refine (sblocks_any (HR.out.below hl1)).mono ?_; rintro e w1 ⟨rfl, rfl⟩)
    | (go_at_call 25; refine (sReads_bare (HR.out.below hl1) 0 v.n).mono ?_; rintro e w1 ⟨rfl, hb1⟩
       have hbW : b < W.heap.size := by have := hz.out; omega
       have hr1 := below_row hb1 hr.out hbW
       have hl2 := hl1.trans (hb1.mono hl1.size)
       have hbw : w.heap.size ≤ b := by have := hb.out; omega)
    | (refine imA.wpStore (i := I0) (j := I0) rfl (.tmp 2) (.tmp 16) rfl rfl rfl hr1 rfl rfl ?_; intro W2 hr2 hg2 hz2)
    | fail)
  refine bodyPost_ret (results_cell_tmp (fn := Tryz.f17) rfl _ b 43 _ (0, 0) _ rfl hr2.out imA.und rfl (by rw [imA.size]; simp [icells_19 (i := I0) rfl])) rfl ⟨rfl, hl2.grown hg2 hl2.size (fun k e => by cases e; exact hbw)⟩
end Go.Proofs.YtpalmobmabkadaaGreatDoor
