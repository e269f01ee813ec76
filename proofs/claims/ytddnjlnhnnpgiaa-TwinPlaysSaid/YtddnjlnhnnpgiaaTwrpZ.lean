/- The reference's twin is opened. What the reference's twin opens is what the program's does. -/
import Derived.Test.YtddnjlnhnnpgiaaTwnew
namespace Go.Proofs.Ytddnjlnhnnpgiaa
set_option maxRecDepth 20000
open Go.RowKit

theorem rread_any (A : Option Addr) (n c : Nat) (l : List UInt8) (w : World) (h : Rd w w.heap.size 1 A n c (u8s l)) (hn : n ≤ 1000000) : Calls Try.prog 30 #[.slice A n c] w (Tells3 w (readOf l)) := by
  have hln : l.length = n := by have := h.len; rwa [u8s_len] at this
  by_cases hs : n < 64
  · exact rread_short A n c l w hln hs
  · by_cases hw : headsOf l ≠ tailsOf l ∨ headsOf l = 0
    · exact rread_ends A n c l w h hn (by omega) hw
    · refine rread_late A n c l w h hn (by omega) ?_ ?_ <;> omega
theorem read_err (l : List UInt8) (h : (readOf l).2.2 ≠ 0) : readOf l = (0, [], (readOf l).2.2) := by
  obtain ⟨sz, es, hs⟩ : ∃ sz es, sizeOf l = (sz, es) := ⟨_, _, rfl⟩
  by_cases h1 : es = 0
  · subst h1
    obtain ⟨body, ej, hj⟩ : ∃ body ej, joinedOf l (sectorsOf sz) (headsOf l) = (body, ej) := ⟨_, _, rfl⟩
    by_cases h2 : ej = 0
    · subst h2
      have h3 := readOf_open l sz body hs hj
      by_cases h4 : (openedOf body sz).2 = 0
      · rw [if_neg (by simpa using h4)] at h3
        rw [h3] at h
        exact absurd rfl h
      · rw [if_pos (by simpa using h4)] at h3
        rw [h3]
    · rw [readOf_join l sz hs (by rw [hj]; exact h2)]
  · rw [readOf_size l (by rw [hs]; exact h1)]
def rtUpd (i : Nat) (t : Tv) (r : Nat × List UInt8 × Int) : Tv := if t.number < r.1 then { t with place := i, number := r.1, text := r.2.1 } else t
def rtAt (base : Int) (size : Nat) (lb : Nat → List UInt8) : Nat → Tv
  | 0 => ⟨base, size, 0, 0, [], 0⟩
  | i + 1 => rtUpd i (rtAt base size lb i) (readOf (lb i))
def rtMost (size : Nat) (lb : Nat → List UInt8) : Nat → Nat
  | 0 => 0
  | i + 1 => max (rtMost size lb i) (mostOf (lb i) size)
theorem rtopen_down {w : World} {q : Nat} (base size : Int) (c3 : w.cell? ⟨q, 3, none⟩ = some (.bool true)) : Calls Try.prog 11 #[.pointer (some ⟨q, 0, none⟩), .int .i64 base, .int .i64 size] w fun e w' => e = .returned (.tuple #[.pointer none, .int .i64 50]) ∧ w = w' := by
  go_enter Try.func11, Try.ntmps11
  go_wp2_with (fail)
  go_ret2
  exact ⟨rfl, rfl⟩
theorem rtopen_out {w : World} {q n : Nat} (base size : Int) (c0 : w.cell? ⟨q, 0, none⟩ = some (.int .i64 (n : Int))) (c3 : w.cell? ⟨q, 3, none⟩ = some (.bool false)) (hn : n ≤ 65536) (hk : Key base) (hk2 : Key size) (h : ¬ (1 ≤ size ∧ 0 ≤ base ∧ base + 2 * size ≤ n)) : Calls Try.prog 11 #[.pointer (some ⟨q, 0, none⟩), .int .i64 base, .int .i64 size] w fun e w' => e = .returned (.tuple #[.pointer none, .int .i64 30]) ∧ w = w' := by
  have hnn : (n : Int) ≤ 65536 := by omega
  obtain ⟨hk1, hk3⟩ := hk
  obtain ⟨hk4, hk5⟩ := hk2
  by_cases q1 : size < 1
  · have d1 : decide (size < 1) = true := by simpa using q1
    clear h
    go_enter Try.func11, Try.ntmps11
    go_wp2_with (fail)
    go_ret2
    exact ⟨rfl, rfl⟩
  have d1 : decide (size < 1) = false := by simpa using q1
  by_cases q2 : base < 0
  · have d2 : decide (base < 0) = true := by simpa using q2
    clear h
    go_enter Try.func11, Try.ntmps11
    go_wp2_with (fail)
    go_ret2
    exact ⟨rfl, rfl⟩
  have d2 : decide (base < 0) = false := by simpa using q2
  by_cases q3 : (n : Int) < size
  · have d3 : decide ((n : Int) < size) = true := by simpa using q3
    clear h
    go_enter Try.func11, Try.ntmps11
    go_wp2_with (fail)
    go_ret2
    exact ⟨rfl, rfl⟩
  have d3 : decide ((n : Int) < size) = false := by simpa using q3
  have hn1 : 1 ≤ size := by omega
  have hb1 : 0 ≤ base := by omega
  have hs1 : size ≤ 65536 := by omega
  by_cases q4 : (n : Int) - size < base
  · have d4 : decide ((n : Int) - size < base) = true := by simpa using q4
    clear h
    go_enter Try.func11, Try.ntmps11
    go_wp2_with (fail)
    go_ret2
    exact ⟨rfl, rfl⟩
  have d4 : decide ((n : Int) - size < base) = false := by simpa using q4
  have q5 : (n : Int) - size - size < base := by omega
  have d5 : decide ((n : Int) - size - size < base) = true := by simpa using q5
  clear h
  go_enter Try.func11, Try.ntmps11
  go_wp2_with (fail)
  go_ret2
  exact ⟨rfl, rfl⟩
/-- The twin as the reference has opened it so far. -/
def RO (w : World) (q : Nat) (base : Int) (size : Nat) (lb : Nat → List UInt8) (i : Nat) (W : World) : Prop :=
  ∃ A n c, Rtw W w.heap.size q (rtAt base size lb i) A n c ∧ Rd W W.heap.size 1 A n c (u8s (rtAt base size lb i).text) ∧ Below w.heap.size w W ∧ ∀ b o, A = some ⟨b, o, none⟩ → w.heap.size < b
theorem rt_upd {w4 : World} {U q n c : Nat} {t : Tv} {A : Option Addr} (h : Rtw w4 U q t A n c) (i : Nat) (r : Nat × List UInt8 × Int) (hr : t.number < r.1) (A' : Option Addr) (n' c' : Nat) :
    Rtw (((w4.setCell ⟨U, 3, none⟩ (.int .i64 (i : Int))).setCell ⟨U, 4, none⟩ (.int .u64 (r.1 : Int))).setCell ⟨U, 5, none⟩ (.slice A' n' c')) U q (rtUpd i t r) A' n' c'
      ∧ Keeps (fun i => i = U) w4 (((w4.setCell ⟨U, 3, none⟩ (.int .i64 (i : Int))).setCell ⟨U, 4, none⟩ (.int .u64 (r.1 : Int))).setCell ⟨U, 5, none⟩ (.slice A' n' c')) := by
  constructor
  · have r1 := setCell_row (i := 3) (v := .int .i64 (i : Int)) h
    have r2 := setCell_row (i := 4) (v := .int .u64 (r.1 : Int)) r1
    have r3 := setCell_row (i := 5) (v := .slice A' n' c') r2
    have ha : (rtUpd i t r).at_ = i := by
      unfold Tv.at_ rtUpd
      rw [if_pos hr]
      exact if_neg (show ¬ r.1 = 0 by omega)
    unfold Rtw
    unfold rtRow at r3 ⊢
    rw [ha]
    unfold rtUpd
    rw [if_pos hr]
    simp at r3 ⊢
    exact r3
  · exact ((keeps_set w4 U 3 _).trans (keeps_set _ U 4 _) (fun i h => .inl h)).trans (keeps_set _ U 5 _) (fun i h => .inl h)
theorem below_sets {w w4 w5 : World} {U : Nat} (h : Below w.heap.size w w4) (k : Keeps (fun i => i = U) w4 w5) (hU : w.heap.size ≤ U) : Below w.heap.size w w5 :=
  ⟨k.os.trans h.os, k.tape.trans h.tape, k.output.trans h.output, Nat.le_trans h.size k.size, fun i hi => (k.block i (Nat.lt_of_lt_of_le hi h.size) (fun e => by omega)).trans (h.block i hi)⟩
theorem rd_off_row {w w' : World} {U q n c n' c' : Nat} {t : Tv} {A A' : Option Addr} {l : List UInt8} (hU : Rtw w U q t A n c) (h : Rd w w.heap.size 1 A' n' c' (u8s l)) (k : Keeps (fun i => i = U) w w') : Rd w' w'.heap.size 1 A' n' c' (u8s l) := by
  refine (h.stayn fun h0 b o e hb => k.block b hb (fun hbU => ?_)).more k.size
  subst hbU
  obtain ⟨b', o', e', hb', hc⟩ := h.2.2.2 h0
  rw [e] at e'
  cases e'
  obtain ⟨x, hx⟩ : ∃ x, l[0]? = some x := ⟨_, List.getElem?_eq_getElem (by have := h.len; rw [u8s_len] at this; omega)⟩
  have h1 := hc 0 (.int .u8 (x.toNat : Int)) (by unfold u8s; rw [List.getElem?_map, hx]; rfl)
  rw [Nat.add_zero] at h1
  unfold Rtw at hU
  simp only [World.cell?, hU] at h1
  unfold rtRow at h1
  rcases o with _ | _ | _ | _ | _ | _ | _ | o <;> simp at h1
set_option maxHeartbeats 4000000 in
theorem rtopen_ok {w : World} {q n : Nat} (base : Int) (size : Nat) (lb : Nat → List UInt8) (c0 : w.cell? ⟨q, 0, none⟩ = some (.int .i64 (n : Int))) (c3 : w.cell? ⟨q, 3, none⟩ = some (.bool false)) (hq : q < w.heap.size) (hn : n ≤ 20)
    (h1 : 1 ≤ size) (h0 : 0 ≤ base) (h2 : base + 2 * (size : Int) ≤ n) (hlb : ∀ i, (lb i).length = 64 * size)
    (HR : ∀ (W : World), Below w.heap.size w W → ∀ i : Nat, i < 2 → Calls Try.prog 28 #[.pointer (some ⟨q, 0, none⟩), .int .i64 (base + (i : Int) * (size : Int)), .int .i64 (size : Int)] W (Gets W (lb i) 0)) :
    Calls Try.prog 11 #[.pointer (some ⟨q, 0, none⟩), .int .i64 base, .int .i64 (size : Int)] w fun e w' => ∃ A m c, e = .returned (.tuple #[.pointer (some ⟨w.heap.size, 0, none⟩), .int .i64 0])
      ∧ Rtw w' w.heap.size q { rtAt base size lb 2 with next := (rtMost size lb 2 + 1) % 18446744073709551616 } A m c ∧ Rd w' w'.heap.size 1 A m c (u8s (rtAt base size lb 2).text) ∧ Below w.heap.size w w' ∧ ∀ b o, A = some ⟨b, o, none⟩ → w.heap.size < b := by
  have hnn : (n : Int) ≤ 20 := by omega
  have hs1 : (size : Int) ≤ 20 := by omega
  have hs2 : (1 : Int) ≤ (size : Int) := by omega
  have hb2 : base ≤ 20 := by omega
  have d1 : decide ((size : Int) < 1) = false := by simp; omega
  have d2 : decide (base < 0) = false := by simp; omega
  have d3 : decide ((n : Int) < (size : Int)) = false := by simp; omega
  have d6 : decide (n < size) = false := by simp; omega
  have d4 : decide ((n : Int) - (size : Int) < base) = false := by simp; omega
  have d5 : decide ((n : Int) - (size : Int) - (size : Int) < base) = false := by simp; omega
  have HRR := Lib.hid HR
  have HLB := Lib.hid hlb
  have H2 := Lib.hid h2
  have HQ := Lib.hid hq
  clear HR hlb hq
  go_enter Try.func11, Try.ntmps11
  go_upto_region 6 with (fail)
  obtain ⟨W0, hW0⟩ : ∃ W0, W0 = w.alloc (.cells #[.pointer (some ⟨q, 0, none⟩), .int .i64 base, .int .i64 (size : Int), .int .i64 (-1), .int .u64 0, .slice none 0 0, .int .u64 0] 82) := ⟨_, rfl⟩
  rw [← hW0]
  have hRO : RO w q base size lb 0 W0 := by
    refine ⟨none, 0, 0, ?_, Rd.nil_, ?_, fun b o e => by cases e⟩
    · rw [hW0]; exact row_here _ _ rfl
    · rw [hW0]; exact (Below.refl _ _).alloc (Nat.le_refl _) _
  have HRO := Lib.hid hRO
  clear hW0 hRO d1 d2 d3 d4 d5 d6 c0 c3 h2
  go_wp2_with (fail)
  go_loopw [9, 10] (fun mr ir wr => ∃ i : Nat, i ≤ 2 ∧ ir = .int .i64 (i : Int) ∧ mr = .int .u64 (rtMost size lb i : Int) ∧ RO w q base size lb i wr) (fun _ ir _ => 2 - (intOf ir).toNat)
  case atStart => exact ⟨0, Nat.zero_le _, rfl, rfl, HRO.out⟩
  case round =>
    obtain ⟨i, hi, rfl, rfl, A, m, c, hrow, hrd, hbw, hnew⟩ := hrel
    have HNEW := Lib.hid hnew
    clear hnew
    clear HRO
    have HS1 : Hid (rtMost size lb (i + 1) = max (rtMost size lb i) (mostOf (lb i) size)) := Lib.hid rfl
    have HS2 : Hid (rtAt base size lb (i + 1) = rtUpd i (rtAt base size lb i) (readOf (lb i))) := Lib.hid rfl
    obtain ⟨mm, hmm⟩ : ∃ mm, mm = rtMost size lb i := ⟨_, rfl⟩
    obtain ⟨tv, htv⟩ : ∃ tv, tv = rtAt base size lb i := ⟨_, rfl⟩
    rw [← hmm] at HS1 ⊢
    rw [← htv] at HS2 hrow hrd
    have HMM := Lib.hid hmm
    have HTV := Lib.hid htv
    have f3 := frozen_of_row wr w.heap.size 3 _ _ hrow
    have f4 := frozen_of_row wr w.heap.size 4 _ _ hrow
    have f5 := frozen_of_row wr w.heap.size 5 _ _ hrow
    have f6 := frozen_of_row wr w.heap.size 6 _ _ hrow
    have g3 := hrow.c3
    have g4 := hrow.c4
    have g5 := hrow.c5
    have g6 := hrow.c6
    have HROW := Lib.hid hrow
    have HRD := Lib.hid hrd
    have HBW := Lib.hid hbw
    have hU := hrow.lt
    clear hrow hrd hbw hmm htv
    by_cases hlt : i < 2
    · have HRC := HRR.out wr HBW.out i hlt
      have hq2 : (mm : Int) = (mm : Int) := rfl
      obtain ⟨m2, hm2⟩ : ∃ m2, m2 = max mm (mostOf (lb i) size) := ⟨_, rfl⟩
      have e1 : (if ((mostOf (lb i) size : Nat) : Int) < (mm : Int) then (mm : Int) else ((mostOf (lb i) size : Nat) : Int)) = (m2 : Int) := by split <;> omega
      have e2 : max (mm : Int) ((mostOf (lb i) size : Nat) : Int) = (m2 : Int) := by omega
      have e3 : (if (mm : Int) < ((mostOf (lb i) size : Nat) : Int) then ((mostOf (lb i) size : Nat) : Int) else (mm : Int)) = (m2 : Int) := by split <;> omega
      have HM2 := Lib.hid hm2
      clear hm2 hq2
      have HL := Lib.hid (HLB.out i)
      have HE := Lib.hid (read_err (lb i))
      have HMO : Hid (∀ (A1 : Option Addr) (n1 c1 : Nat) (W : World), Rd W W.heap.size 1 A1 n1 c1 (u8s (lb i)) → Calls Try.prog 29 #[.slice A1 n1 c1] W fun e w' => e = .returned (.int .u64 ((mostOf (lb i) size : Nat) : Int)) ∧ Below W.heap.size W w') := Lib.hid (fun A1 n1 c1 W h => by
        have hl := h.len
        rw [u8s_len, HL.out] at hl
        have := rmost_any A1 n1 c1 (lb i) W h (by omega)
        rwa [show n1 / 64 = size by omega] at this)
      have HFR := Lib.hid (fun (A1 : Option Addr) (n1 c1 : Nat) (W : World) (h : Rd W W.heap.size 1 A1 n1 c1 (u8s (lb i))) => rreadF_any A1 n1 c1 (lb i) W h (by have := h.len; rw [u8s_len, HL.out] at this; omega))
      generalize readOf (lb i) = rr at *
      obtain ⟨v, tx, E⟩ := rr
      have hcase : (E = 0 ∧ tv.number < v) ∨ (E = 0 ∧ ¬ tv.number < v) ∨ (E ≠ 0 ∧ ¬ tv.number < v) := by
        by_cases h1 : E = 0
        · by_cases h2 : tv.number < v
          · exact .inl ⟨h1, h2⟩
          · exact .inr (.inl ⟨h1, h2⟩)
        · have := HE.out h1
          have hv : v = 0 := congrArg (·.1) this
          exact .inr (.inr ⟨h1, by omega⟩)
      clear HE
      generalize hmo : mostOf (lb i) size = mo at *
      have HMOO := Lib.hid hmo
      clear hmo
      obtain ⟨x, hx⟩ : ∃ x : Int, x = base + (i : Int) * (size : Int) := ⟨_, rfl⟩
      rw [← hx] at HRC
      have HRCC := Lib.hid HRC
      clear HRC
      rcases (show i = 0 ∨ i = 1 by omega) with rfl | rfl
      all_goals (
        first
          | (have hxx : x = base := by rw [hx]; simp
             clear hx
             subst hxx)
          | (have hxx : x = base + (size : Int) := by rw [hx]; simp
             clear hx
             subst hxx)
        rcases hcase with ⟨rfl, hv⟩ | ⟨rfl, hv⟩ | ⟨hE, hv⟩
        · have q1 : decide ((tv.number : Int) < (v : Int)) = true := by simpa using hv
          have q2 : decide (tv.number < v) = true := by simpa using hv
          go_wp2_with (first
            | (go_at_call 28; refine HRCC.out.mono ?_; rintro e w1 ⟨A1, n1, c1, rfl, hrd1, hb1⟩
               have HRD1 := Lib.hid hrd1
               have HB1 := Lib.hid hb1
               have hU1 := Nat.lt_of_lt_of_le hU hb1.size
               clear hrd1 hb1)
            | (go_at_call 29; refine (HMO.out A1 n1 c1 _ HRD1.out).mono ?_; rintro e w2 ⟨rfl, hb2⟩
               have HB2 := Lib.hid hb2
               clear hb2)
            | (go_at_call 30; refine (HFR.out A1 n1 c1 _ ((HRD1.out.below HB2.out).more HB2.out.size)).mono ?_; rintro e w3 ⟨A2, n2, c2, rfl, hn2, hrd2, hb3, hnw⟩
               have HNW : Hid (∀ b o, A2 = some ⟨b, o, none⟩ → w.heap.size < b) := Lib.hid (fun b o e => by have := hnw b o e; have := HB1.out.size; have := HB2.out.size; omega)
               clear hnw
               have hb03 := HB1.out.trans ((HB2.out.trans (hb3.mono HB2.out.size)).mono HB1.out.size)
               have rt3 : Rtw w3 w.heap.size q tv A m c := HROW.out.below hb03
               have f3 := frozen_of_row w3 w.heap.size 3 _ _ rt3
               have f4 := frozen_of_row w3 w.heap.size 4 _ _ rt3
               have f5 := frozen_of_row w3 w.heap.size 5 _ _ rt3
               have g3 := rt3.c3
               have g4 := rt3.c4
               have g5 := rt3.c5
               have HRT3 := Lib.hid rt3
               have HRD2 := Lib.hid hrd2
               have HB03 := Lib.hid hb03
               clear rt3 hrd2 hb03 hb3 hn2)
            | fail)
          go_roundw
          case rel =>
            first
              | (refine ⟨0 + 1, by decide, rfl, by rw [HS1.out, HM2.out], A2, n2, c2, by rw [HS2.out]; exact (rt_upd HRT3.out 0 (v, tx, (0 : Int)) hv A2 n2 c2).1, by rw [HS2.out, rtUpd, if_pos hv]; exact rd_off_row HRT3.out HRD2.out (rt_upd HRT3.out 0 (v, tx, (0 : Int)) hv A2 n2 c2).2, below_sets (HBW.out.trans (HB03.out.mono HBW.out.size)) (rt_upd HRT3.out 0 (v, tx, (0 : Int)) hv A2 n2 c2).2 (Nat.le_refl _), HNW.out⟩)
              | (refine ⟨1 + 1, by decide, rfl, by rw [HS1.out, HM2.out], A2, n2, c2, by rw [HS2.out]; exact (rt_upd HRT3.out 1 (v, tx, (0 : Int)) hv A2 n2 c2).1, by rw [HS2.out, rtUpd, if_pos hv]; exact rd_off_row HRT3.out HRD2.out (rt_upd HRT3.out 1 (v, tx, (0 : Int)) hv A2 n2 c2).2, below_sets (HBW.out.trans (HB03.out.mono HBW.out.size)) (rt_upd HRT3.out 1 (v, tx, (0 : Int)) hv A2 n2 c2).2 (Nat.le_refl _), HNW.out⟩)
          case measure => simp [intOf]
        · have q1 : decide ((tv.number : Int) < (v : Int)) = false := by simpa using hv
          have q2 : decide (tv.number < v) = false := by simpa using hv
          go_wp2_with (first
            | (go_at_call 28; refine HRCC.out.mono ?_; rintro e w1 ⟨A1, n1, c1, rfl, hrd1, hb1⟩
               have HRD1 := Lib.hid hrd1
               have HB1 := Lib.hid hb1
               have hU1 := Nat.lt_of_lt_of_le hU hb1.size
               clear hrd1 hb1)
            | (go_at_call 29; refine (HMO.out A1 n1 c1 _ HRD1.out).mono ?_; rintro e w2 ⟨rfl, hb2⟩
               have HB2 := Lib.hid hb2
               clear hb2)
            | (go_at_call 30; refine (HFR.out A1 n1 c1 _ ((HRD1.out.below HB2.out).more HB2.out.size)).mono ?_; rintro e w3 ⟨A2, n2, c2, rfl, hn2, hrd2, hb3, hnw⟩
               have HNW : Hid (∀ b o, A2 = some ⟨b, o, none⟩ → w.heap.size < b) := Lib.hid (fun b o e => by have := hnw b o e; have := HB1.out.size; have := HB2.out.size; omega)
               clear hnw
               have hb03 := HB1.out.trans ((HB2.out.trans (hb3.mono HB2.out.size)).mono HB1.out.size)
               have rt3 : Rtw w3 w.heap.size q tv A m c := HROW.out.below hb03
               have f3 := frozen_of_row w3 w.heap.size 3 _ _ rt3
               have f4 := frozen_of_row w3 w.heap.size 4 _ _ rt3
               have f5 := frozen_of_row w3 w.heap.size 5 _ _ rt3
               have g3 := rt3.c3
               have g4 := rt3.c4
               have g5 := rt3.c5
               have HRT3 := Lib.hid rt3
               have HRD2 := Lib.hid hrd2
               have HB03 := Lib.hid hb03
               clear rt3 hrd2 hb03 hb3 hn2)
            | fail)
          go_roundw
          case rel =>
            first
              | (refine ⟨0 + 1, by decide, rfl, by rw [HS1.out, HM2.out], A, m, c, by rw [HS2.out, rtUpd, if_neg hv]; exact HRT3.out, by rw [HS2.out, rtUpd, if_neg hv]; exact (HRD.out.below HB03.out).more HB03.out.size, HBW.out.trans (HB03.out.mono HBW.out.size), HNEW.out⟩)
              | (refine ⟨1 + 1, by decide, rfl, by rw [HS1.out, HM2.out], A, m, c, by rw [HS2.out, rtUpd, if_neg hv]; exact HRT3.out, by rw [HS2.out, rtUpd, if_neg hv]; exact (HRD.out.below HB03.out).more HB03.out.size, HBW.out.trans (HB03.out.mono HBW.out.size), HNEW.out⟩)
          case measure => simp [intOf]
        · have q1 : (E == 0) = false := by simpa using hE
          go_wp2_with (first
            | (go_at_call 28; refine HRCC.out.mono ?_; rintro e w1 ⟨A1, n1, c1, rfl, hrd1, hb1⟩
               have HRD1 := Lib.hid hrd1
               have HB1 := Lib.hid hb1
               have hU1 := Nat.lt_of_lt_of_le hU hb1.size
               clear hrd1 hb1)
            | (go_at_call 29; refine (HMO.out A1 n1 c1 _ HRD1.out).mono ?_; rintro e w2 ⟨rfl, hb2⟩
               have HB2 := Lib.hid hb2
               clear hb2)
            | (go_at_call 30; refine (HFR.out A1 n1 c1 _ ((HRD1.out.below HB2.out).more HB2.out.size)).mono ?_; rintro e w3 ⟨A2, n2, c2, rfl, hn2, hrd2, hb3, hnw⟩
               have HNW : Hid (∀ b o, A2 = some ⟨b, o, none⟩ → w.heap.size < b) := Lib.hid (fun b o e => by have := hnw b o e; have := HB1.out.size; have := HB2.out.size; omega)
               clear hnw
               have hb03 := HB1.out.trans ((HB2.out.trans (hb3.mono HB2.out.size)).mono HB1.out.size)
               have rt3 : Rtw w3 w.heap.size q tv A m c := HROW.out.below hb03
               have f3 := frozen_of_row w3 w.heap.size 3 _ _ rt3
               have f4 := frozen_of_row w3 w.heap.size 4 _ _ rt3
               have f5 := frozen_of_row w3 w.heap.size 5 _ _ rt3
               have g3 := rt3.c3
               have g4 := rt3.c4
               have g5 := rt3.c5
               have HRT3 := Lib.hid rt3
               have HRD2 := Lib.hid hrd2
               have HB03 := Lib.hid hb03
               clear rt3 hrd2 hb03 hb3 hn2)
            | fail)
          go_roundw
          case rel =>
            first
              | (refine ⟨0 + 1, by decide, rfl, by rw [HS1.out, HM2.out], A, m, c, by rw [HS2.out, rtUpd, if_neg hv]; exact HRT3.out, by rw [HS2.out, rtUpd, if_neg hv]; exact (HRD.out.below HB03.out).more HB03.out.size, HBW.out.trans (HB03.out.mono HBW.out.size), HNEW.out⟩)
              | (refine ⟨1 + 1, by decide, rfl, by rw [HS1.out, HM2.out], A, m, c, by rw [HS2.out, rtUpd, if_neg hv]; exact HRT3.out, by rw [HS2.out, rtUpd, if_neg hv]; exact (HRD.out.below HB03.out).more HB03.out.size, HBW.out.trans (HB03.out.mono HBW.out.size), HNEW.out⟩)
          case measure => simp [intOf])
    · obtain rfl : i = 2 := by omega
      go_wp2_with (fail)
      go_ret2
      rw [← HTV.out, ← HMM.out]
      have hw : IntKind.u64.wrap ((mm : Int) + 1) = (((mm + 1) % 18446744073709551616 : Nat) : Int) := by simp [IntKind.wrap, IntKind.signed, IntKind.bits]
      rw [hw]
      have r1 := setCell_row (i := 6) (v := .int .u64 (((mm + 1) % 18446744073709551616 : Nat) : Int)) HROW.out
      have hk := keeps_set wr w.heap.size 6 (.int .u64 (((mm + 1) % 18446744073709551616 : Nat) : Int))
      refine ⟨A, m, c, rfl, ?_, ?_, below_sets HBW.out hk (Nat.le_refl _), HNEW.out⟩
      · unfold Rtw
        simp [rtRow, Tv.at_] at r1 ⊢
        exact r1
      · exact rd_off_row HROW.out HRD.out hk
end Go.Proofs.Ytddnjlnhnnpgiaa

namespace Go.Proofs.Ytddnjlnhnnpgiaa
set_option maxRecDepth 20000
open Go.RowKit

theorem sect_cut (l : List UInt8) (a k : Nat) (h : k < a) : sect (l.take (64 * a)) k = sect l k := by
  unfold sect
  rw [List.drop_take, List.take_take, Nat.min_eq_left (by omega)]
theorem sect_behind (l : List UInt8) (a k : Nat) : sect (l.drop (64 * a)) k = sect l (a + k) := by
  unfold sect
  rw [List.drop_drop, show 64 * a + 64 * k = 64 * (a + k) by omega]
theorem mostOf_cut (l : List UInt8) (a k : Nat) (h : k ≤ a) : mostOf (l.take (64 * a)) k = mostOf l k := by
  induction k with
  | zero => rfl
  | succ k ih => rw [mostOf, mostOf, ih (by omega), sect_cut l a k (by omega)]
theorem mostOf_both (l : List UInt8) (a k : Nat) : mostOf l (a + k) = max (mostOf (l.take (64 * a)) a) (mostOf (l.drop (64 * a)) k) := by
  induction k with
  | zero => rw [Nat.add_zero, mostOf_cut l a a (Nat.le_refl _)]; exact (Nat.max_eq_left (Nat.zero_le _)).symm
  | succ k ih => rw [← Nat.add_assoc, mostOf, mostOf, ih, sect_behind]; omega
theorem bytes_both (d : Dv) (x : Int) (a k : Nat) : d.bytes x (a + k) = d.bytes x a ++ d.bytes (x + a) k := by
  induction k with
  | zero => rw [Nat.add_zero]; exact (List.append_nil _).symm
  | succ k ih => rw [← Nat.add_assoc, Dv.bytes, Dv.bytes, ih, List.append_assoc, show x + ((a + k : Nat) : Int) = x + a + k by omega]
theorem rt_open (base : Int) (size : Nat) (l : List UInt8) (lb : Nat → List UInt8) (h0 : lb 0 = l.take (64 * size)) (h1 : lb 1 = l.drop (64 * size)) :
    { rtAt base size lb 2 with next := (rtMost size lb 2 + 1) % 18446744073709551616 } = openTv base size l := by
  have hm : rtMost size lb 2 = mostOf l (2 * size) := by
    rw [show 2 * size = size + size by omega, mostOf_both, ← h0, ← h1]
    show max (max 0 (mostOf (lb 0) size)) (mostOf (lb 1) size) = _
    omega
  have e1 : rtAt base size lb 1 = if 0 < (readOf (lb 0)).1 then ⟨base, size, 0, (readOf (lb 0)).1, (readOf (lb 0)).2.1, 0⟩ else ⟨base, size, 0, 0, [], 0⟩ := rfl
  have e2 : rtAt base size lb 2 = if (rtAt base size lb 1).number < (readOf (lb 1)).1 then { rtAt base size lb 1 with place := 1, number := (readOf (lb 1)).1, text := (readOf (lb 1)).2.1 } else rtAt base size lb 1 := rfl
  have e3 : bestBy size l = if (readOf (lb 0)).1 < (readOf (lb 1)).1 then (1, (readOf (lb 1)).1, (readOf (lb 1)).2.1) else if 0 < (readOf (lb 0)).1 then (0, (readOf (lb 0)).1, (readOf (lb 0)).2.1) else (0, 0, []) := by unfold bestBy heldOf bestOf; rw [← h0, ← h1]
  unfold openTv
  rw [e3, hm]
  by_cases a : 0 < (readOf (lb 0)).1
  · rw [if_pos a] at e1
    rw [e1] at e2
    by_cases b : (readOf (lb 0)).1 < (readOf (lb 1)).1
    · rw [if_pos b] at e2; rw [e2, if_pos b]
    · rw [if_neg b] at e2; rw [e2, if_neg b, if_pos a]
  · rw [if_neg a] at e1
    rw [e1] at e2
    have a0 : (readOf (lb 0)).1 = 0 := by omega
    by_cases b : 0 < (readOf (lb 1)).1
    · rw [if_pos b] at e2; rw [e2, if_pos (show (readOf (lb 0)).1 < (readOf (lb 1)).1 by omega)]
    · rw [if_neg b] at e2; rw [e2, if_neg (show ¬ (readOf (lb 0)).1 < (readOf (lb 1)).1 by omega), if_neg a]
/-- What is opened tells, for a device and the reference's, just so. -/
theorem rtopen_any {w : World} {B q M : Nat} {N : Nat → Prop} {r : Rv} {d : Dv} (hsim : Sim d r) (h : ROwn w B q N M r) (hd : d.Ok) (hM : M ≤ 100000) (base size : Int) (hk : Key base) (hk2 : Key size) (hn : d.n ≤ 20) :
    Calls Try.prog 11 #[.pointer (some ⟨q, 0, none⟩), .int .i64 base, .int .i64 size] w fun e w' =>
      if d.down = true then e = .returned (.tuple #[.pointer none, .int .i64 50]) ∧ w = w'
      else if 1 ≤ size ∧ 0 ≤ base ∧ base + 2 * size ≤ d.n then ∃ A m c, e = .returned (.tuple #[.pointer (some ⟨w.heap.size, 0, none⟩), .int .i64 0]) ∧ Rtw w' w.heap.size q (openTv base size.toNat (d.bytes base (2 * size.toNat))) A m c ∧ Rd w' w'.heap.size 1 A m c (u8s (openTv base size.toNat (d.bytes base (2 * size.toNat))).text) ∧ Below w.heap.size w w' ∧ ∀ b o, A = some ⟨b, o, none⟩ → w.heap.size < b
      else e = .returned (.tuple #[.pointer none, .int .i64 30]) ∧ w = w' := by
  obtain ⟨vs, vl, hr, hs, hdn, hN⟩ := h
  have hrn : r.n = d.n := hsim.n.symm
  by_cases h1 : d.down = true
  · simp only [if_pos h1]
    exact rtopen_down base size (by rw [← h1, hsim.down]; exact hr.c3)
  simp only [if_neg h1]
  have c3 : w.cell? ⟨q, 3, none⟩ = some (.bool false) := by
    have : r.down = false := by rw [← hsim.down]; simpa using h1
    rw [← this]; exact hr.c3
  have c0 : w.cell? ⟨q, 0, none⟩ = some (.int .i64 (d.n : Int)) := by rw [← hrn]; exact hr.c0
  by_cases h2 : 1 ≤ size ∧ 0 ≤ base ∧ base + 2 * size ≤ d.n
  · simp only [if_pos h2]
    obtain ⟨s, rfl⟩ : ∃ s : Nat, size = (s : Int) := ⟨size.toNat, by omega⟩
    simp only [Int.toNat_natCast]
    obtain ⟨k1, k2, k3⟩ := h2
    have hL0 := Dv.bytes_len hd base s
    have hL1 := Dv.bytes_len hd (base + (s : Int)) s
    have hall : d.bytes base (2 * s) = d.bytes base s ++ d.bytes (base + (s : Int)) s := by rw [show 2 * s = s + s by omega]; exact bytes_both d base s s
    have ho := rt_open base s (d.bytes base (2 * s)) (fun i => if i = 0 then d.bytes base s else d.bytes (base + (s : Int)) s) (by rw [hall, List.take_left' (by omega)]; rfl) (by rw [hall, List.drop_left' (by omega)]; rfl)
    have hE := rtopen_ok (w := w) (q := q) (n := d.n) base s (fun i => if i = 0 then d.bytes base s else d.bytes (base + (s : Int)) s) c0 c3 (Array.getElem?_eq_some_iff.1 hr.row).1 hn (by omega) k2 k3 (fun i => by split <;> assumption) (fun W hW i hi => by
      have hg := rread_exact hsim (hr.below hW) (by omega) (base + (i : Int) * (s : Int)) (s : Int)
      have e1 : d.gotE (base + (i : Int) * (s : Int)) (s : Int) = 0 := by
        unfold Dv.gotE
        rw [if_neg h1, if_pos]
        unfold withinB
        rw [decide_eq_true_eq]
        rcases (show i = 0 ∨ i = 1 by omega) with rfl | rfl <;> simp <;> omega
      have e2 : d.gotB (base + (i : Int) * (s : Int)) (s : Int) = if i = 0 then d.bytes base s else d.bytes (base + (s : Int)) s := by
        unfold Dv.gotB
        rw [if_neg h1, if_pos (by
          unfold withinB
          rw [decide_eq_true_eq]
          rcases (show i = 0 ∨ i = 1 by omega) with rfl | rfl <;> simp <;> omega)]
        rcases (show i = 0 ∨ i = 1 by omega) with rfl | rfl <;> simp
      rw [e1, e2] at hg
      exact hg)
    refine hE.mono ?_
    rintro e w' ⟨A, m, c, rfl, g1, g2, g3, g4⟩
    rw [ho] at g1
    have ht : (rtAt base s (fun i => if i = 0 then d.bytes base s else d.bytes (base + (s : Int)) s) 2).text = (openTv base s (d.bytes base (2 * s))).text := by
      have h9 := congrArg Tv.text ho
      exact h9
    rw [ht] at g2
    exact ⟨A, m, c, rfl, g1, g2, g3, g4⟩
  · simp only [if_neg h2]
    exact rtopen_out base size c0 c3 (by omega) hk hk2 h2
end Go.Proofs.Ytddnjlnhnnpgiaa
