/- What an entry says of an index. What an entry says of an index, as the reference says it. -/
import Derived.Test.YtapfggpeodpflaaLensM
import Derived.Test.YtapfggpeodpflaaSegsM
namespace Go.Proofs.Ytapfggpeodpflaa
open Go.RowKit

def Lk.val (l : Lk) : Value := .agg #[.int .u64 (l.cl : Int), .int .u64 (l.rq : Int), .int .u32 (l.fr : Int), .int .u32 (l.ct : Int)]
theorem below2 (w : World) (o p : Obj) : Below w.heap.size w ((w.alloc o).alloc p) := ((Below.refl _ _).alloc (Nat.le_refl _) _).alloc (by simp) _
theorem look_any (e : En) (w : World) : Calls Try.prog 52 #[.agg e.cells] w fun r w' => r = .returned e.look.val ∧ Below w.heap.size w w' := by
  obtain ⟨ix, tm, st, kd, cl, rq, fr, ct, da, A, bn, bc, ls⟩ := e
  unfold En.cells
  go_enter Try.func52, Try.ntmps52
  go_wp2
  exact bodyPost_ret (v := Lk.val ⟨cl, rq, fr, ct⟩) (by simp [results, Try.results52, go_sem, Lk.val]) rfl ⟨rfl, below2 _ _ _⟩
theorem rlook_any (e : En) (w : World) : Calls Try.prog 45 #[.agg e.cells] w fun r w' => r = .returned e.look.val ∧ Below w.heap.size w w' := by
  obtain ⟨ix, tm, st, kd, cl, rq, fr, ct, da, A, bn, bc, ls⟩ := e
  unfold En.cells
  go_enter Try.func45, Try.ntmps45
  go_wp2
  exact bodyPost_ret (v := Lk.val ⟨cl, rq, fr, ct⟩) (by simp [results, Try.results45, go_sem, Lk.val]) rfl ⟨rfl, below2 _ _ _⟩

/-- The first index of which something is said. -/
def En.first (e : En) : Nat := e.ix - min e.ix e.bn
theorem first_any (e : En) (w : World) (hx : e.ix < 18446744073709551616) (hn : e.bn ≤ maxLen) : Calls Try.prog 87 #[.agg e.cells] w fun r w' => r = .returned (.int .u64 (e.first : Int)) ∧ Below w.heap.size w w' := by
  obtain ⟨ix, tm, st, kd, cl, rq, fr, ct, da, A, bn, bc, ls⟩ := e
  dsimp only at hx hn
  unfold maxLen at hn
  obtain ⟨m, hm⟩ : ∃ m, m = min ix bn := ⟨_, rfl⟩
  have hmx : (if bn < ix then (bn : Int) else (ix : Int)) = (m : Int) := by rw [hm]; split <;> omega
  have hmy : min (ix : Int) (bn : Int) = (m : Int) := by rw [hm]; omega
  have hmi : m ≤ ix := by omega
  have hf : En.first ⟨ix, tm, st, kd, cl, rq, fr, ct, da, A, bn, bc, ls⟩ = ix - m := by rw [hm]; rfl
  rw [hf, show ((ix - m : Nat) : Int) = (ix : Int) - (m : Int) from by omega]
  unfold En.cells
  clear hm hf
  go_enter Try.func87, Try.ntmps87
  go_wp2
  go_ret
  exact ⟨rfl, (Below.refl _ _).alloc (Nat.le_refl _) _⟩

/-- What is said of an index. -/
def En.at (e : En) (i : Nat) : Option Lk := if i < e.ix then e.ls[e.ix - 1 - i]? else none
def toldV (o : Option Lk) : Value := .tuple #[(o.getD Lk.zero).val, .bool o.isSome]
theorem toldV_ret {o : Option Lk} {l : Lk} {b : Bool} (h1 : o.getD Lk.zero = l) (h2 : o.isSome = b) : Ending.returned (.tuple #[l.val, .bool b]) = .returned (toldV o) := by subst h1; subst h2; rfl
set_option maxHeartbeats 1000000 in
theorem at_any (e : En) (i : Nat) (w : World) (h : e.Reads w) (hi : i < 18446744073709551616) : Calls Try.prog 85 #[.agg e.cells, .int .u64 (i : Int)] w fun r w' => r = .returned (toldV (e.at i)) ∧ Below w.heap.size w w' := by
  have hF := fun W => first_any e W h.ix (Nat.le_trans h.rd.1 h.rd.2.1)
  have hix := h.ix
  obtain ⟨W, hW, hz, r0, r1, hb⟩ := boxes2 w e.cells #[.int .u64 0, .int .u64 0, .int .u32 0, .int .u32 0] 55 78
  have hrd := (h.rd.below hb).more hb.size
  have hlen := h.len
  have hbc := h.rd.2.1
  have hbb := h.rd.1
  obtain ⟨f, hf⟩ : ∃ f, f = e.first := ⟨_, rfl⟩
  rw [← hf] at hF
  unfold En.first at hf
  obtain ⟨ix, tm, st, kd, cl, rq, fr, ct, da, A, bn, bc, ls⟩ := e
  dsimp only at *
  unfold maxLen at hbc
  have HF := Lib.hid hF
  have HX := Lib.hid hf
  have HL := Lib.hid hlen
  have HRD := Lib.hid hrd
  have HB := Lib.hid hb
  have HZ := Lib.hid hz
  clear hF hf hlen hrd hb hz h
  unfold En.cells at *
  by_cases h1 : i < f
  · have q1 : decide (i < f) = true := by simpa using h1
    have HA : Hid (En.at ⟨ix, tm, st, kd, cl, rq, fr, ct, da, A, bn, bc, ls⟩ i = none) := Lib.hid (by
      have := HX.out
      have := HL.out
      unfold En.at
      dsimp only
      rw [if_pos (by omega)]
      exact List.getElem?_eq_none (by omega))
    go_enter Try.func85, Try.ntmps85
    go_wp2_with (first
      | (go_at_call 87; refine (HF.out _).mono ?_; rintro e w1 ⟨rfl, hb1⟩
         rw [← hW] at hb1
         have s0 := cellz (j := 0) (u := .int .u64 0) hb1 r1 rfl (by have := HZ.out; omega)
         have s1 := cellz (j := 1) (u := .int .u64 0) hb1 r1 rfl (by have := HZ.out; omega)
         have s2 := cellz (j := 2) (u := .int .u32 0) hb1 r1 rfl (by have := HZ.out; omega)
         have s3 := cellz (j := 3) (u := .int .u32 0) hb1 r1 rfl (by have := HZ.out; omega)
         have z0 := frozenz hb1 0 r1 (by have := HZ.out; omega)
         have z1 := frozenz hb1 1 r1 (by have := HZ.out; omega)
         have z2 := frozenz hb1 2 r1 (by have := HZ.out; omega)
         have z3 := frozenz hb1 3 r1 (by have := HZ.out; omega)
         have HB1 := Lib.hid hb1
         clear hb1)
      | fail)
    rw [HA.out]
    exact bodyPost_ret (v := .tuple #[Lk.val Lk.zero, .bool false]) (by simp [results, Try.results85, go_sem, s0, s1, s2, s3, Lk.val, Lk.zero]) rfl ⟨rfl, ((((HB.out.trans (HB1.out.mono HB.out.size)).setCell (by simp) _).setCell (by simp) _).setCell (by simp) _).setCell (by simp) _⟩
  · have q1 : decide (i < f) = false := by simpa using h1
    by_cases h2 : i < ix
    · have q2 : decide (ix ≤ i) = false := by simpa using h2
      obtain ⟨k, hk⟩ : ∃ k, k = ix - 1 - i := ⟨_, rfl⟩
      have hkn : k < bn := by have := HX.out; omega
      obtain ⟨l, hl⟩ : ∃ l, ls[k]? = some l := ⟨_, List.getElem?_eq_getElem (by have := HL.out; omega)⟩
      have HA : Hid (En.at ⟨ix, tm, st, kd, cl, rq, fr, ct, da, A, bn, bc, ls⟩ i = some l) := Lib.hid (by
        unfold En.at
        dsimp only
        rw [if_pos h2, ← hk, hl])
      obtain ⟨b, o, rfl, hbl, hcc⟩ := HRD.out.2.2.2 (by omega)
      have hc := fun j u (hu : l.cells[j]? = some u) => hcc _ _ (lks_get ls k l hl j u hu)
      obtain ⟨l1, l2, l3, l4⟩ := l
      have HC := Lib.hid hc
      have e2 : (ix : Int) - 1 - (i : Int) = (k : Int) := by omega
      have e1 : 1 ≤ (ix : Int) := by omega
      have hkm : (k : Int) < (bn : Int) := by omega
      clear hcc hc hl hk
      go_enter Try.func85, Try.ntmps85
      go_wp2_with (first
        | (go_at_call 87; refine (HF.out _).mono ?_; rintro e w1 ⟨rfl, hb1⟩
           rw [← hW] at hb1
           have s0 := cellz (j := 0) (u := .int .u64 0) hb1 r1 rfl (by have := HZ.out; omega)
           have s1 := cellz (j := 1) (u := .int .u64 0) hb1 r1 rfl (by have := HZ.out; omega)
           have s2 := cellz (j := 2) (u := .int .u32 0) hb1 r1 rfl (by have := HZ.out; omega)
           have s3 := cellz (j := 3) (u := .int .u32 0) hb1 r1 rfl (by have := HZ.out; omega)
           have z0 := frozenz hb1 0 r1 (by have := HZ.out; omega)
           have z1 := frozenz hb1 1 r1 (by have := HZ.out; omega)
           have z2 := frozenz hb1 2 r1 (by have := HZ.out; omega)
           have z3 := frozenz hb1 3 r1 (by have := HZ.out; omega)
           have t0 := cellz (j := 0) (u := .int .u64 (ix : Int)) hb1 r0 rfl (by have := HZ.out; omega)
           have t9 := cellz (j := 9) (u := .slice (some ⟨b, o, none⟩) bn bc) hb1 r0 rfl (by have := HZ.out; omega)
           have k0 : w1.cell? ⟨b, o + k * 4, none⟩ = some (.int .u64 (l1 : Int)) := (hb1.cell (p := ⟨b, _, none⟩) hbl).trans (HC.out 0 _ rfl)
           have k1 : w1.cell? ⟨b, o + k * 4 + 1, none⟩ = some (.int .u64 (l2 : Int)) := (hb1.cell (p := ⟨b, _, none⟩) hbl).trans (HC.out 1 _ rfl)
           have k2 : w1.cell? ⟨b, o + k * 4 + 2, none⟩ = some (.int .u32 (l3 : Int)) := (hb1.cell (p := ⟨b, _, none⟩) hbl).trans (HC.out 2 _ rfl)
           have k3 : w1.cell? ⟨b, o + k * 4 + 3, none⟩ = some (.int .u32 (l4 : Int)) := (hb1.cell (p := ⟨b, _, none⟩) hbl).trans (HC.out 3 _ rfl)
           have HB1 := Lib.hid hb1
           clear hb1)
        | fail)
      rw [HA.out]
      exact bodyPost_ret (v := .tuple #[Lk.val ⟨l1, l2, l3, l4⟩, .bool true]) (by simp [results, Try.results85, go_sem, s0, s1, s2, s3, Lk.val]) rfl ⟨rfl, ((((HB.out.trans (HB1.out.mono HB.out.size)).setCell (by simp) _).setCell (by simp) _).setCell (by simp) _).setCell (by simp) _⟩
    · have q2 : decide (ix ≤ i) = true := by simpa using h2
      have HA : Hid (En.at ⟨ix, tm, st, kd, cl, rq, fr, ct, da, A, bn, bc, ls⟩ i = none) := Lib.hid (by
        unfold En.at
        dsimp only
        rw [if_neg h2])
      go_enter Try.func85, Try.ntmps85
      go_wp2_with (first
        | (go_at_call 87; refine (HF.out _).mono ?_; rintro e w1 ⟨rfl, hb1⟩
           rw [← hW] at hb1
           have s0 := cellz (j := 0) (u := .int .u64 0) hb1 r1 rfl (by have := HZ.out; omega)
           have s1 := cellz (j := 1) (u := .int .u64 0) hb1 r1 rfl (by have := HZ.out; omega)
           have s2 := cellz (j := 2) (u := .int .u32 0) hb1 r1 rfl (by have := HZ.out; omega)
           have s3 := cellz (j := 3) (u := .int .u32 0) hb1 r1 rfl (by have := HZ.out; omega)
           have z0 := frozenz hb1 0 r1 (by have := HZ.out; omega)
           have z1 := frozenz hb1 1 r1 (by have := HZ.out; omega)
           have z2 := frozenz hb1 2 r1 (by have := HZ.out; omega)
           have z3 := frozenz hb1 3 r1 (by have := HZ.out; omega)
           have t0 := cellz (j := 0) (u := .int .u64 (ix : Int)) hb1 r0 rfl (by have := HZ.out; omega)
           have HB1 := Lib.hid hb1
           clear hb1)
        | fail)
      rw [HA.out]
      exact bodyPost_ret (v := .tuple #[Lk.val Lk.zero, .bool false]) (by simp [results, Try.results85, go_sem, s0, s1, s2, s3, Lk.val, Lk.zero]) rfl ⟨rfl, ((((HB.out.trans (HB1.out.mono HB.out.size)).setCell (by simp) _).setCell (by simp) _).setCell (by simp) _).setCell (by simp) _⟩

end Go.Proofs.Ytapfggpeodpflaa

namespace Go.Proofs.Ytapfggpeodpflaa
open Go.RowKit

set_option maxHeartbeats 1000000 in
theorem rat_any (e : En) (i : Nat) (w : World) (h : e.Reads w) (hi : i < 18446744073709551616) : Calls Try.prog 71 #[.agg e.cells, .int .u64 (i : Int)] w fun r w' => r = .returned (toldV (e.at i)) ∧ Below w.heap.size w w' := by
  have hix := h.ix
  obtain ⟨W, hW, hz, r0, r1, hb⟩ := boxes2 w e.cells #[.int .u64 0, .int .u64 0, .int .u32 0, .int .u32 0] 55 78
  have hrd := (h.rd.below hb).more hb.size
  have hlen := h.len
  have hbc := h.rd.2.1
  have hbb := h.rd.1
  obtain ⟨ix, tm, st, kd, cl, rq, fr, ct, da, A, bn, bc, ls⟩ := e
  dsimp only at *
  unfold maxLen at hbc
  have hbm : (bn : Int) ≤ 9223372036854775807 := by omega
  have HL := Lib.hid hlen
  have HRD := Lib.hid hrd
  have HB := Lib.hid hb
  have HZ := Lib.hid hz
  clear hlen hrd hb hz h
  unfold En.cells at *
  go_enter Try.func71, Try.ntmps71
  go_wp2
  go_loopw [6] (fun kr wr => ∃ k : Nat, k ≤ bn ∧ kr = .int .i64 (k : Int) ∧ Hid (∀ j, j < k → j < ix → i ≠ ix - 1 - j) ∧ Below W.heap.size W wr) (fun kr _ => bn - (intOf kr).toNat)
  case atStart => exact ⟨0, Nat.zero_le _, rfl, Lib.hid (fun j hj => absurd hj (Nat.not_lt_zero _)), by rw [hW]; exact Below.refl _ _⟩
  case round =>
    obtain ⟨k, hk, rfl, hno, hbr⟩ := hrel
    have HBR := Lib.hid hbr
    have s0 := cellz (j := 0) (u := .int .u64 0) hbr r1 rfl (by have := HZ.out; omega)
    have s1 := cellz (j := 1) (u := .int .u64 0) hbr r1 rfl (by have := HZ.out; omega)
    have s2 := cellz (j := 2) (u := .int .u32 0) hbr r1 rfl (by have := HZ.out; omega)
    have s3 := cellz (j := 3) (u := .int .u32 0) hbr r1 rfl (by have := HZ.out; omega)
    have z0 := frozenz hbr 0 r1 (by have := HZ.out; omega)
    have z1 := frozenz hbr 1 r1 (by have := HZ.out; omega)
    have z2 := frozenz hbr 2 r1 (by have := HZ.out; omega)
    have z3 := frozenz hbr 3 r1 (by have := HZ.out; omega)
    have t0 := cellz (j := 0) (u := .int .u64 (ix : Int)) hbr r0 rfl (by have := HZ.out; omega)
    have t9 := cellz (j := 9) (u := .slice A bn bc) hbr r0 rfl (by have := HZ.out; omega)
    clear hbr
    by_cases hlt : k < bn
    · have hkm : (k : Int) < (bn : Int) := by omega
      have hki : (k : Int) ≤ 9223372036854775806 := by omega
      by_cases h1 : k < ix
      · have q1 : decide (k < ix) = true := by simpa using h1
        obtain ⟨p, hp⟩ : ∃ p : Nat, (ix : Int) - 1 - (k : Int) = (p : Int) := ⟨ix - 1 - k, by omega⟩
        have hp64 : p < 18446744073709551616 := by omega
        have e1 : 1 ≤ (ix : Int) := by omega
        have HP := Lib.hid (show p = ix - 1 - k by omega)
        by_cases h2 : i = p
        · subst h2
          obtain ⟨l, hl⟩ : ∃ l, ls[k]? = some l := ⟨_, List.getElem?_eq_getElem (by have := HL.out; omega)⟩
          have HA : Hid (En.at ⟨ix, tm, st, kd, cl, rq, fr, ct, da, A, bn, bc, ls⟩ i = some l) := Lib.hid (by
            have := HP.out
            unfold En.at
            dsimp only
            rw [if_pos (by omega), show ix - 1 - i = k by omega, hl])
          obtain ⟨b, o, rfl, hbl, hcc⟩ := HRD.out.2.2.2 (by omega)
          have hc := fun j u (hu : l.cells[j]? = some u) => hcc _ _ (lks_get ls k l hl j u hu)
          obtain ⟨l1, l2, l3, l4⟩ := l
          have k0 : wr.cell? ⟨b, o + k * 4, none⟩ = some (.int .u64 (l1 : Int)) := (HBR.out.cell (p := ⟨b, _, none⟩) hbl).trans (hc 0 _ rfl)
          have k1 : wr.cell? ⟨b, o + k * 4 + 1, none⟩ = some (.int .u64 (l2 : Int)) := (HBR.out.cell (p := ⟨b, _, none⟩) hbl).trans (hc 1 _ rfl)
          have k2 : wr.cell? ⟨b, o + k * 4 + 2, none⟩ = some (.int .u32 (l3 : Int)) := (HBR.out.cell (p := ⟨b, _, none⟩) hbl).trans (hc 2 _ rfl)
          have k3 : wr.cell? ⟨b, o + k * 4 + 3, none⟩ = some (.int .u32 (l4 : Int)) := (HBR.out.cell (p := ⟨b, _, none⟩) hbl).trans (hc 3 _ rfl)
          clear hc hcc hl h1 hlt
          go_wp2
          rw [HA.out]
          exact bodyPost_ret (v := .tuple #[Lk.val ⟨l1, l2, l3, l4⟩, .bool true]) (by simp [results, Try.results71, go_sem, s0, s1, s2, s3, Lk.val]) rfl ⟨rfl, ((((HB.out.trans (HBR.out.mono HB.out.size)).setCell (by simp) _).setCell (by simp) _).setCell (by simp) _).setCell (by simp) _⟩
        · have q2 : decide (i = p) = false := by simpa using h2
          have q3 : ((i : Int) == (p : Int)) = false := by simp; omega
          have q4 : (i == p) = false := by simpa using h2
          have hno' : Hid (∀ j, j < k + 1 → j < ix → i ≠ ix - 1 - j) := Lib.hid (fun j hj hjx => by
            rcases Nat.lt_or_ge j k with h | h
            · exact hno.out j h hjx
            · obtain rfl : j = k := by omega
              rw [← HP.out]; exact h2)
          clear hno h1 hlt
          go_wp2
          go_roundw
          case rel => exact ⟨k + 1, by omega, by go_num, hno', HBR.out⟩
          case measure => simp [intOf]; omega
      · have q1 : decide (k < ix) = false := by simpa using h1
        have hno' : Hid (∀ j, j < k + 1 → j < ix → i ≠ ix - 1 - j) := Lib.hid (fun j hj hjx => by
          rcases Nat.lt_or_ge j k with h | h
          · exact hno.out j h hjx
          · omega)
        clear hno h1 hlt
        go_wp2
        go_roundw
        case rel => exact ⟨k + 1, by omega, by go_num, hno', HBR.out⟩
        case measure => simp [intOf]; omega
    · obtain rfl : k = bn := by omega
      have HA : Hid (En.at ⟨ix, tm, st, kd, cl, rq, fr, ct, da, A, k, bc, ls⟩ i = none) := Lib.hid (by
        have := HL.out
        unfold En.at
        dsimp only
        split
        · refine List.getElem?_eq_none ?_
          rcases Nat.lt_or_ge (ix - 1 - i) k with h | h
          · exact absurd (by omega) (hno.out (ix - 1 - i) h (by omega))
          · omega
        · rfl)
      clear hno
      go_wp2
      rw [HA.out]
      exact bodyPost_ret (v := .tuple #[Lk.val Lk.zero, .bool false]) (by simp [results, Try.results71, go_sem, s0, s1, s2, s3, Lk.val, Lk.zero]) rfl ⟨rfl, ((((HB.out.trans (HBR.out.mono HB.out.size)).setCell (by simp) _).setCell (by simp) _).setCell (by simp) _).setCell (by simp) _⟩

end Go.Proofs.Ytapfggpeodpflaa
