/- Tables of requests in one order, and in the other. -/
import Derived.Test.YtlbjbkhnicbibaaRaddn
import Derived.Test.YtlbjbkhnicbibaaDect
namespace Go.Proofs.Ytlbjbkhnicbibaa
open Go.ChangeShapes Go.WideShapes Go.ChangeAt Go.RowKit

/-- What a table remembers: of whom what was done. -/
def TInv (T : List Cl) (P : Nat → Nat → Prop) : Prop := Tok T ∧ (∀ c r, P c r → 1 ≤ c ∧ c ≤ 8) ∧ ∀ k, k < 8 → Inv (T.getD k (0, 0)) (P (k + 1))
theorem tinv_zero : TInv T0 (fun _ _ => False) := by
  refine ⟨⟨rfl, fun p hp => ?_⟩, fun _ _ h => h.elim, fun k hk => ?_⟩
  · have := List.eq_of_mem_replicate hp; subst this; exact ⟨by decide, by decide⟩
  · have : T0.getD k (0, 0) = (0, 0) := by unfold T0; rw [List.getD, List.getElem?_replicate, if_pos hk]; rfl
    rw [this]
    exact inv_zero
theorem tinv_iff {T : List Cl} {P Q : Nat → Nat → Prop} (h : TInv T P) (hq : ∀ c r, P c r ↔ Q c r) : TInv T Q :=
  ⟨h.1, fun c r hc => h.2.1 c r ((hq c r).2 hc), fun k hk => inv_iff (h.2.2 k hk) (hq (k + 1))⟩
theorem tinv_add {T : List Cl} {P : Nat → Nat → Prop} (h : TInv T P) (c r : Nat) (h8 : 1 ≤ c ∧ c ≤ 8) (hr : r < 18446744073709551616) (ho : oldN (T.getD (c - 1) (0, 0)).1 r = false) : TInv (addT T c r) (fun c' r' => P c' r' ∨ (c' = c ∧ r' = r)) := by
  have e : addT T c r = T.set (c - 1) (withN (T.getD (c - 1) (0, 0)) r) := by
    unfold addT
    rw [at8_in h8, ho]
    simp only [Bool.not_false, if_true]
  refine ⟨addT_ok h.1 c r hr, fun c' r' hp => ?_, fun k hk => ?_⟩
  · rcases hp with hp | ⟨rfl, _⟩
    · exact h.2.1 c' r' hp
    · exact h8
  · rw [e, List.getD, List.getElem?_set]
    by_cases hc : c - 1 = k
    · rw [if_pos hc, if_pos (by have := h.1.1; omega)]
      subst hc
      refine inv_iff (inv_with (h.2.2 (c - 1) hk) hr ho) fun x => ?_
      rw [show c - 1 + 1 = c by omega]
      simp
    · rw [if_neg hc]
      refine inv_iff (h.2.2 k hk) fun x => ?_
      constructor
      · exact .inl
      · rintro (h | ⟨h, _⟩)
        · exact h
        · omega
theorem tinv_uniq {S T : List Cl} {P : Nat → Nat → Prop} (h : TInv S P) (k : TInv T P) : S = T := by
  apply List.ext_getElem?
  intro i
  by_cases hi : i < 8
  · have h1 := inv_uniq (h.2.2 i hi) (k.2.2 i hi)
    rw [List.getElem?_eq_getElem (by have := h.1.1; omega), List.getElem?_eq_getElem (by have := k.1.1; omega)]
    have e1 : S.getD i (0, 0) = S[i]'(by have := h.1.1; omega) := by rw [List.getD, List.getElem?_eq_getElem]; rfl
    have e2 : T.getD i (0, 0) = T[i]'(by have := k.1.1; omega) := by rw [List.getD, List.getElem?_eq_getElem]; rfl
    rw [← e1, ← e2, h1]
  · rw [List.getElem?_eq_none (by have := h.1.1; omega), List.getElem?_eq_none (by have := k.1.1; omega)]
theorem tinv_told {T : List Cl} {P : Nat → Nat → Prop} (h : TInv T P) {c r : Nat} (hp : P c r) : (1 ≤ c ∧ c ≤ 8) ∧ (hasN (T.getD (c - 1) (0, 0)) r = true ∨ oldN (T.getD (c - 1) (0, 0)).1 r = true) := by
  have h8 := h.2.1 c r hp
  refine ⟨h8, inv_told (h.2.2 (c - 1) (by omega)) ?_⟩
  rw [show c - 1 + 1 = c by omega]
  exact hp
theorem mem_take_succ {α : Type} {l : List α} {i : Nat} {x : α} (h : l[i]? = some x) (y : α) : y ∈ l.take (i + 1) ↔ y ∈ l.take i ∨ y = x := by
  obtain ⟨hi, rfl⟩ := List.getElem?_eq_some_iff.1 h
  rw [List.take_succ_eq_append_getElem hi, List.mem_append, List.mem_singleton]
theorem mem_drop_pred {α : Type} {l : List α} {i : Nat} {x : α} (h : l[i]? = some x) (y : α) : y ∈ l.drop i ↔ y ∈ l.drop (i + 1) ∨ y = x := by
  obtain ⟨hi, rfl⟩ := List.getElem?_eq_some_iff.1 h
  rw [List.drop_eq_getElem_cons hi, List.mem_cons, or_comm]

/-- The cells of pairs of numbers. -/
def cells2 (ps : List (Nat × Nat)) : List Value := ps.flatMap fun p => [.int .u64 (p.1 : Int), .int .u64 (p.2 : Int)]
theorem cells2_len (ps : List (Nat × Nat)) : (cells2 ps).length = ps.length * 2 := by
  induction ps with
  | nil => rfl
  | cons p ps ih => simp only [cells2, List.flatMap_cons, List.length_append, List.length_cons, List.length_nil] at ih ⊢; omega
theorem cells2_get (ps : List (Nat × Nat)) (i : Nat) (p : Nat × Nat) (h : ps[i]? = some p) : (cells2 ps)[i * 2]? = some (.int .u64 (p.1 : Int)) ∧ (cells2 ps)[i * 2 + 1]? = some (.int .u64 (p.2 : Int)) := by
  induction ps generalizing i with
  | nil => cases h
  | cons q ps ih =>
    have e : cells2 (q :: ps) = .int .u64 (q.1 : Int) :: .int .u64 (q.2 : Int) :: cells2 ps := rfl
    rw [e]
    cases i with
    | zero =>
      obtain rfl : q = p := by simpa using h
      exact ⟨rfl, rfl⟩
    | succ i =>
      have := ih i (by simpa using h)
      rw [show (i + 1) * 2 = i * 2 + 1 + 1 from by omega]
      exact this
section
variable {H : Type} {enc : TypeId × Value → H} {P : Program} {W : World} {r : Reach} {b0 : Nat} {t e : TypeId} {v : Value} {d : DataW H} {p : List MemPlace}
theorem dec_arr2s {u : TypeId} (ht : P.underlying t = some (.slice e)) (he : P.underlying e = some (.array 2 u)) (hu : P.underlying u = some (.int .u64)) (hC : P.cellsOf e = 2) (hc : P.cellsOf u = 1)
    (hok : Value.okWide P W r b0 t v) (h : DataW.Trod enc P W 0 (fun _ => true) true t v d p) :
    ∃ (A : Option Addr) (n c : Nat) (ps : List (Nat × Nat)), v = .slice A n c ∧ Rd W W.heap.size 2 A n c (cells2 ps) ∧ ps.length = n ∧ ∀ q ∈ ps, q.1 < 18446744073709551616 ∧ q.2 < 18446744073709551616 := by
  obtain ⟨A, n, c, rfl⟩ := okWide_slice ht hok
  obtain ⟨fuel, hf⟩ := h
  rcases Go.Deep.open_slice ht hf with ⟨hcs, _⟩ | ⟨x, l, c', m, k, D, Pl, hcs, _, hl, hm, hmm, _, hi⟩
  · simp [Value.cells] at hcs
    obtain ⟨rfl, rfl, rfl⟩ := hcs
    exact ⟨_, _, _, [], rfl, Rd.nil_, rfl, fun q h => by cases h⟩
  · simp [Value.cells] at hcs
    obtain ⟨rfl, rfl, rfl⟩ := hcs
    simp only [if_true] at hmm
    rw [hC] at hi
    have each : ∀ i, ∃ q : Nat × Nat, i < n → W.cell? (x.add (i * 2)) = some (.int .u64 (q.1 : Int)) ∧ W.cell? (x.add (i * 2 + 1)) = some (.int .u64 (q.2 : Int)) ∧ q.1 < 18446744073709551616 ∧ q.2 < 18446744073709551616 := by
      intro i
      by_cases hin : i < n
      · obtain ⟨cs', hcc, ht'⟩ := hi i (by omega)
        obtain ⟨ys, n', _, _, hlen, hyl, hfl⟩ := DataW.trod_array he ht'
        obtain ⟨_, hcl, hat⟩ := World.cells?_some hcc
        match cs', hcl with
        | [u0, u1], _ =>
          have g0 := hfl 0 (by decide)
          have g1 := hfl 1 (by decide)
          rw [hc, List.getElem?_eq_getElem (by omega)] at g0 g1
          obtain ⟨a, ha, _, wa⟩ := DataW.trod_int hu g0
          obtain ⟨b, hb, _, wb⟩ := DataW.trod_int hu g1
          cases ha
          cases hb
          have c0 := hat 0 (by decide)
          have c1 := hat 1 (by decide)
          have ra := wf_nat .u64 a wa rfl
          have rb := wf_nat .u64 b wb rfl
          have ra2 : a ≤ 18446744073709551615 := ra.2
          have rb2 : b ≤ 18446744073709551615 := rb.2
          refine ⟨(a.toNat, b.toNat), fun _ => ⟨?_, ?_, ?_, ?_⟩⟩
          · simp only [Int.toNat_of_nonneg ra.1]
            simpa [Addr.add] using c0
          · simp only [Int.toNat_of_nonneg rb.1]
            rw [← Go.Deep.add_add]; exact c1
          · show a.toNat < _; omega
          · show b.toNat < _; omega
      · exact ⟨(0, 0), fun h => absurd h hin⟩
    obtain ⟨g, hg⟩ := Classical.axiomOfChoice each
    refine ⟨_, n, c, (List.range n).map g, rfl, ⟨hl, hm, by rw [cells2_len]; simp, fun hn => ?_⟩, by simp, fun q hq => ?_⟩
    · obtain ⟨b, off, spot⟩ := x
      have hc0 := (hg 0 hn).1
      have hspot : spot = none := by simpa [Addr.add] using World.cell?_spot hc0
      subst hspot
      refine ⟨b, off, rfl, ?_, fun j u hu => ?_⟩
      · have := World.block_lt_of_cell? W _ hc0
        simpa [addOff] using this
      · have hj : j < (cells2 ((List.range n).map g)).length := (List.getElem?_eq_some_iff.1 hu).1
        rw [cells2_len] at hj
        simp only [List.length_map, List.length_range] at hj
        have hp := cells2_get ((List.range n).map g) (j / 2) (g (j / 2)) (by simp [show j / 2 < n by omega])
        have hq := hg (j / 2) (by omega)
        rcases Nat.mod_two_eq_zero_or_one j with hm2 | hm2
        · rw [show j / 2 * 2 = j by omega] at hp hq
          rw [hp.1] at hu
          rw [← addOff, hq.1, hu]
        · rw [show j / 2 * 2 + 1 = j by omega] at hp hq
          rw [hp.2] at hu
          rw [← addOff, hq.2.1, hu]
    · obtain ⟨i, hi', rfl⟩ := List.mem_map.1 hq
      exact (hg i (List.mem_range.1 hi')).2.2
end

theorem below_setRow {B g : Nat} {w W : World} (h : Below B w W) (hg : B ≤ g) (cs : Array Value) : Below B w (W.setRow g cs) :=
  ⟨h.os, h.tape, h.output, by simpa using h.size, fun i hi => (setRow_other W g i cs (by omega)).trans (h.block i hi)⟩
/-- Two new rows, in either order. -/
theorem two_new (wd : World) (Z X Y : Array Value) (t : TypeId) (p q : Nat) (hpq : (p = wd.heap.size ∧ q = wd.heap.size + 1) ∨ (q = wd.heap.size ∧ p = wd.heap.size + 1)) :
    ((((wd.alloc (.cells Z t)).alloc (.cells Z t)).setRow p X).setRow q Y).heap[p]? = some (.cells X t (0, 0)) ∧ ((((wd.alloc (.cells Z t)).alloc (.cells Z t)).setRow p X).setRow q Y).heap[q]? = some (.cells Y t (0, 0))
    ∧ Below wd.heap.size wd ((((wd.alloc (.cells Z t)).alloc (.cells Z t)).setRow p X).setRow q Y) ∧ ((wd.alloc (.cells Z t)).alloc (.cells Z t)).heap[p]? = some (.cells Z t (0, 0)) ∧ (((wd.alloc (.cells Z t)).alloc (.cells Z t)).setRow p X).heap[q]? = some (.cells Z t (0, 0)) := by
  have h0 : ((wd.alloc (.cells Z t)).alloc (.cells Z t)).heap[wd.heap.size]? = some (.cells Z t (0, 0)) := row_old _ (heap_alloc_new wd _)
  have h1 : ((wd.alloc (.cells Z t)).alloc (.cells Z t)).heap[wd.heap.size + 1]? = some (.cells Z t (0, 0)) := row_here _ _ (by simp)
  have hne : p ≠ q := by omega
  have hp : ((wd.alloc (.cells Z t)).alloc (.cells Z t)).heap[p]? = some (.cells Z t (0, 0)) := by rcases hpq with ⟨rfl, rfl⟩ | ⟨rfl, rfl⟩ <;> assumption
  have hq : ((wd.alloc (.cells Z t)).alloc (.cells Z t)).heap[q]? = some (.cells Z t (0, 0)) := by rcases hpq with ⟨rfl, rfl⟩ | ⟨rfl, rfl⟩ <;> assumption
  have hq2 : (((wd.alloc (.cells Z t)).alloc (.cells Z t)).setRow p X).heap[q]? = some (.cells Z t (0, 0)) := (setRow_other _ p q _ (fun e => hne e.symm)).trans hq
  refine ⟨(setRow_other _ q p _ hne).trans (setRow_heap _ p _ _ t _ hp), setRow_heap _ q _ _ t _ hq2, ?_, hp, hq2⟩
  exact below_setRow (below_setRow (below2 wd _ _) (by omega) _) (by omega) _

end Go.Proofs.Ytlbjbkhnicbibaa
