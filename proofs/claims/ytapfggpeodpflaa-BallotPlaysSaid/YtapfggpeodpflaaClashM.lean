/- What an entry says of an index, as the reference says it. What waits, what is told of, and what is void: the program's and the reference's. -/
import Derived.Test.YtapfggpeodpflaaBehM
namespace Go.Proofs.Ytapfggpeodpflaa
open Go.RowKit

set_option maxHeartbeats 1000000 in
theorem rat_any (e : En) (i : Nat) (w : World) (h : e.Reads w) (hi : i < 18446744073709551616) : Calls Try.prog 71 #[.agg e.cells, .int .u64 (i : Int)] w fun r w' => r = .returned (toldV (e.at i)) ∧ Below w.heap.size w w' := by
  have hix := h.ix
  obtain ⟨W, hW, hz, r0, r1, hb⟩ := boxes2 w e.cells #[.int .u64 0, .int .u64 0, .int .u32 0, .int .u32 0] 55 78
  have hrd := (h.rd.below hb).more hb.size
  have hlen := h.len
  have hbc := h.rd.2.1
  have hbb := h.rd.1
  obtain ⟨ix, tm, st, kd, cl, rq, fr, ct, da, A, bn, bc, ls⟩ := e
  dsimp only at *
  unfold maxLen at hbc
  have hbm : (bn : Int) ≤ 9223372036854775807 := by omega
  have HL := Lib.hid hlen
  have HRD := Lib.hid hrd
  have HB := Lib.hid hb
  have HZ := Lib.hid hz
  clear hlen hrd hb hz h
  unfold En.cells at *
  go_enter Try.func71, Try.ntmps71
  go_wp2
  go_loopw [6] (fun kr wr => ∃ k : Nat, k ≤ bn ∧ kr = .int .i64 (k : Int) ∧ Hid (∀ j, j < k → j < ix → i ≠ ix - 1 - j) ∧ Below W.heap.size W wr) (fun kr _ => bn - (intOf kr).toNat)
  case atStart => exact ⟨0, Nat.zero_le _, rfl, Lib.hid (fun j hj => absurd hj (Nat.not_lt_zero _)), by rw [hW]; exact Below.refl _ _⟩
  case round =>
    obtain ⟨k, hk, rfl, hno, hbr⟩ := hrel
    have HBR := Lib.hid hbr
    have s0 := cellz (j := 0) (u := .int .u64 0) hbr r1 rfl (by have := HZ.out; omega)
    have s1 := cellz (j := 1) (u := .int .u64 0) hbr r1 rfl (by have := HZ.out; omega)
    have s2 := cellz (j := 2) (u := .int .u32 0) hbr r1 rfl (by have := HZ.out; omega)
    have s3 := cellz (j := 3) (u := .int .u32 0) hbr r1 rfl (by have := HZ.out; omega)
    have z0 := frozenz hbr 0 r1 (by have := HZ.out; omega)
    have z1 := frozenz hbr 1 r1 (by have := HZ.out; omega)
    have z2 := frozenz hbr 2 r1 (by have := HZ.out; omega)
    have z3 := frozenz hbr 3 r1 (by have := HZ.out; omega)
    have t0 := cellz (j := 0) (u := .int .u64 (ix : Int)) hbr r0 rfl (by have := HZ.out; omega)
    have t9 := cellz (j := 9) (u := .slice A bn bc) hbr r0 rfl (by have := HZ.out; omega)
    clear hbr
    by_cases hlt : k < bn
    · have hkm : (k : Int) < (bn : Int) := by omega
      have hki : (k : Int) ≤ 9223372036854775806 := by omega
      by_cases h1 : k < ix
      · have q1 : decide (k < ix) = true := by simpa using h1
        obtain ⟨p, hp⟩ : ∃ p : Nat, (ix : Int) - 1 - (k : Int) = (p : Int) := ⟨ix - 1 - k, by omega⟩
        have hp64 : p < 18446744073709551616 := by omega
        have e1 : 1 ≤ (ix : Int) := by omega
        have HP := Lib.hid (show p = ix - 1 - k by omega)
        by_cases h2 : i = p
        · subst h2
          obtain ⟨l, hl⟩ : ∃ l, ls[k]? = some l := ⟨_, List.getElem?_eq_getElem (by have := HL.out; omega)⟩
          have HA : Hid (En.at ⟨ix, tm, st, kd, cl, rq, fr, ct, da, A, bn, bc, ls⟩ i = some l) := Lib.hid (by
            have := HP.out
            unfold En.at
            dsimp only
            rw [if_pos (by omega), show ix - 1 - i = k by omega, hl])
          obtain ⟨b, o, rfl, hbl, hcc⟩ := HRD.out.2.2.2 (by omega)
          have hc := fun j u (hu : l.cells[j]? = some u) => hcc _ _ (lks_get ls k l hl j u hu)
          obtain ⟨l1, l2, l3, l4⟩ := l
          have k0 : wr.cell? ⟨b, o + k * 4, none⟩ = some (.int .u64 (l1 : Int)) := (HBR.out.cell (p := ⟨b, _, none⟩) hbl).trans (hc 0 _ rfl)
          have k1 : wr.cell? ⟨b, o + k * 4 + 1, none⟩ = some (.int .u64 (l2 : Int)) := (HBR.out.cell (p := ⟨b, _, none⟩) hbl).trans (hc 1 _ rfl)
          have k2 : wr.cell? ⟨b, o + k * 4 + 2, none⟩ = some (.int .u32 (l3 : Int)) := (HBR.out.cell (p := ⟨b, _, none⟩) hbl).trans (hc 2 _ rfl)
          have k3 : wr.cell? ⟨b, o + k * 4 + 3, none⟩ = some (.int .u32 (l4 : Int)) := (HBR.out.cell (p := ⟨b, _, none⟩) hbl).trans (hc 3 _ rfl)
          clear hc hcc hl h1 hlt
          go_wp2
          rw [HA.out]
          exact bodyPost_ret (v := .tuple #[Lk.val ⟨l1, l2, l3, l4⟩, .bool true]) (by simp [results, Try.results71, go_sem, s0, s1, s2, s3, Lk.val]) rfl ⟨rfl, ((((HB.out.trans (HBR.out.mono HB.out.size)).setCell (by simp) _).setCell (by simp) _).setCell (by simp) _).setCell (by simp) _⟩
        · have q2 : decide (i = p) = false := by simpa using h2
          have q3 : ((i : Int) == (p : Int)) = false := by simp; omega
          have q4 : (i == p) = false := by simpa using h2
          have hno' : Hid (∀ j, j < k + 1 → j < ix → i ≠ ix - 1 - j) := Lib.hid (fun j hj hjx => by
            rcases Nat.lt_or_ge j k with h | h
            · exact hno.out j h hjx
            · obtain rfl : j = k := by omega
              rw [← HP.out]; exact h2)
          clear hno h1 hlt
          go_wp2
          go_roundw
          case rel => exact ⟨k + 1, by omega, by go_num, hno', HBR.out⟩
          case measure => simp [intOf]; omega
      · have q1 : decide (k < ix) = false := by simpa using h1
        have hno' : Hid (∀ j, j < k + 1 → j < ix → i ≠ ix - 1 - j) := Lib.hid (fun j hj hjx => by
          rcases Nat.lt_or_ge j k with h | h
          · exact hno.out j h hjx
          · omega)
        clear hno h1 hlt
        go_wp2
        go_roundw
        case rel => exact ⟨k + 1, by omega, by go_num, hno', HBR.out⟩
        case measure => simp [intOf]; omega
    · obtain rfl : k = bn := by omega
      have HA : Hid (En.at ⟨ix, tm, st, kd, cl, rq, fr, ct, da, A, k, bc, ls⟩ i = none) := Lib.hid (by
        have := HL.out
        unfold En.at
        dsimp only
        split
        · refine List.getElem?_eq_none ?_
          rcases Nat.lt_or_ge (ix - 1 - i) k with h | h
          · exact absurd (by omega) (hno.out (ix - 1 - i) h (by omega))
          · omega
        · rfl)
      clear hno
      go_wp2
      rw [HA.out]
      exact bodyPost_ret (v := .tuple #[Lk.val Lk.zero, .bool false]) (by simp [results, Try.results71, go_sem, s0, s1, s2, s3, Lk.val, Lk.zero]) rfl ⟨rfl, ((((HB.out.trans (HBR.out.mono HB.out.size)).setCell (by simp) _).setCell (by simp) _).setCell (by simp) _).setCell (by simp) _⟩

end Go.Proofs.Ytapfggpeodpflaa

namespace Go.Proofs.Ytapfggpeodpflaa
open Go.RowKit

def En.tells (e x : En) : Bool := decide (e.at x.ix = some x.look)
def En.again (e x : En) : Bool := decide (e.kd = 1) && (decide (x.kd = 1) && (decide (e.cl = x.cl) && (decide (e.rq = x.rq) && decide (e.ix ≠ x.ix))))
def En.other (e x : En) : Bool := (e.at x.ix).isSome && !e.tells x
def En.voids (e x : En) : Bool := decide (x.tm < e.tm) && (decide (e.st ≤ x.ix) || (e.other x || e.again x))
theorem En.at_ok {e : En} {w : World} (h : e.Reads w) {i : Nat} {l : Lk} (hl : e.at i = some l) : l.Ok := by
  unfold En.at at hl
  split at hl
  · exact h.oks l (List.mem_of_getElem? hl)
  · cases hl
theorem row1 (w : World) (cs : Array Value) (t : TypeId) : ∃ W, W = w.alloc (.cells cs t) ∧ W.heap.size = w.heap.size + 1 ∧ W.heap[w.heap.size]? = some (.cells cs t (0, 0)) ∧ Below w.heap.size w W :=
  ⟨_, rfl, by simp, heap_alloc_new w _, (Below.refl _ _).alloc (Nat.le_refl _) _⟩

end Go.Proofs.Ytapfggpeodpflaa
