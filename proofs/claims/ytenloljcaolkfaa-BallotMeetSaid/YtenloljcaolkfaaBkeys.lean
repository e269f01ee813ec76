/- maps.Keys of a map of numbers to sets, and what its iterator gives. -/
import Derived.Test.YtenloljcaolkfaaBmap
import Derived.RangeFuncFrom
import Derived.Sort.MapsRangeIn
import Derived.WalkKit
import Derived.OwnWalkIn
import Derived.TacticsInMore
import Derived.RegionIn
import Derived.LoopNIn
import Derived.LoopIn
namespace Go.Proofs.Ytenloljcaolkfaa
open Go.RowKit Go.Maps

/-- No key twice; a key is on the list just where the map has it and it is no longer to come. -/
def CollB (D : DataW Unit) (left : Lit → Bool) (ss : List Nat) : Prop := ss.Nodup ∧ ∀ x : Nat, x ∈ ss ↔ (has D (.int .i64 (x : Int)) = true ∧ left (.int .i64 (x : Int)) = false)
theorem collB_start (D : DataW Unit) : CollB D (has D) [] := ⟨List.nodup_nil, fun x => by cases has D (.int .i64 (x : Int)) <;> simp⟩
theorem CollB.step {D : DataW Unit} {left : Lit → Bool} {ss : List Nat} (h : CollB D left ss) {x : Nat} {y : DataW Unit} (hlk : left (.int .i64 (x : Int)) = true) (hat : ∀ zd, D.atKey (.int .i64 (x : Int)) zd = y) : CollB D (fun z => left z && !z.sameKey (.int .i64 (x : Int))) (ss ++ [x]) := by
  have hhas := has_true_of_atKey hat
  have hnew : x ∉ ss := fun hx => by have := ((h.2 x).1 hx).2; rw [hlk] at this; cases this
  refine ⟨List.nodup_append.2 ⟨h.1, by simp, fun a ha b hb => by simp at hb; subst hb; exact fun e => hnew (e ▸ ha)⟩, fun y => ?_⟩
  dsimp only
  by_cases hy : y = x
  · subst hy
    rw [WideAt.sameKey_self (a := .int .i64 (y : Int)) (by exact trivial)]
    simp [hhas]
  · rw [Maps.sameKey_ne (lit_ne hy)]
    simp [h.2 y, hy]
theorem key_of_i64 {D : DataW Unit} {f : SaysB} (hr : ReadsB D f) {key : Value} {kl : Lit} {y : DataW Unit} (h : keyOf Try.prog 3 key = some kl) (hat : ∀ zd, D.atKey kl zd = y) : ∃ x : Nat, key = .int .i64 (x : Int) ∧ kl = .int .i64 (x : Int) := by
  obtain ⟨x, rfl, rfl, hw⟩ := Maps.keyOf_int_inv Try.underlying3 h
  have hh := has_true_of_atKey hat
  have hx : ¬ x < 0 := fun hx => by rw [hr.1 x hx] at hh; cases hh
  exact ⟨x.toNat, by rw [show ((x.toNat : Nat) : Int) = x by omega], by rw [show ((x.toNat : Nat) : Int) = x by omega]⟩
/-- What the keys are, once none is left. -/
theorem CollB.done {D : DataW Unit} {left : Lit → Bool} {ss : List Nat} {f : SaysB} (h : CollB D left ss) (hr : ReadsB D f) (hl : ∀ kl, left kl = false) : ss.Nodup ∧ ∀ x, x ∈ ss ↔ (f x).isSome = true := by
  refine ⟨h.1, fun x => ?_⟩
  rw [h.2 x, hl]
  cases hh : has D (.int .i64 (x : Int)) with
  | true => obtain ⟨s, d, _, _, e⟩ := (hr.2 x).1 hh; simp [e]
  | false => simp [(hr.2 x).2 hh]

def encB (x : Nat) : Array Value := #[.int .i64 (x : Int)]
set_option maxRecDepth 100000 in
set_option maxHeartbeats 1000000 in
theorem keys_in (n : Nat) (hn : 1 ≤ n) (Bm b m : Nat) (f : SaysB) (w : World) (hBm : Bm < w.heap.size) (hm : w.cell? ⟨Bm, 0, none⟩ = some (.map (some b))) (hM : MapB Try.prog 3 w b m f) :
    SeqStopsA Fence.wide n Try.prog 37 #[.pointer (some ⟨Bm, 0, none⟩)] encB (fun ss => ss.Nodup ∧ ∀ x, x ∈ ss ↔ (f x).isSome = true) (fun _ => True) m w := fun l J Jx W hW hJ _ hY h0 => by
  obtain ⟨D, hown, hrd⟩ := hM.same (w' := W) (hW.block b hM.lt)
  have hm' := (hW.cell (p := ⟨Bm, 0, none⟩) hBm).trans hm
  have hsz := hown.size_le
  have HY := Lib.hid hY
  clear hM hm hBm hY
  refine callsIn_of_wp Try.func37 rfl trivial ?_ rfl
  simp only [Try.ntmps37, List.size_toArray, List.length_cons, List.length_nil, Nat.reduceAdd, Nat.reduceSub, Array.replicate_succ, Array.replicate_zero, List.push_toArray, List.append_toArray, List.nil_append, List.cons_append]
  gi_wp2_with (first
    | (gi_at_range; refine wpListIn_range_own _ rfl _ 44 rfl 3 23 (int_keyed Try.underlying3) Try.underlying44 _ b m _ rfl hown ?_; intro w0 hrg0 hg0 hs0)
    | gi_in)
  go_frame
  gi_loopw [3] (fun _ wr => ∃ (left : Lit → Bool) (cnt : Nat) (ss : List Nat), wr.ranges Try.prog 3 vElem b W.heap.size m D left cnt ∧ ss.length + cnt ≤ m ∧ CollB D left ss ∧ J ss wr)
    (fun _ wr => wr.rangeLeft b W.heap.size)
  case atStart =>
    exact ⟨_, _, [], hrg0, by simpa using hsz, collB_start D, hJ [] W w0 none h0 hg0 (fun r e => by cases e)⟩
  case round =>
    obtain ⟨left, cnt, ss, hrg, hcs, hC, hJs⟩ := hrel
    gi_wp2_with (first
      | (gi_at_next; refine wpListIn_next_ranges _ rfl _ rfl 3 (int_keyed Try.underlying3) vElem (fun x : Int => Value.int .i64 x) (fun v : Value => v) (fun key kl hk => by obtain ⟨x, hx, _⟩ := Maps.keyOf_int_inv Try.underlying3 hk; exact ⟨x, hx⟩) (fun v y _ => ⟨v, rfl⟩) b W.heap.size m _ _ _ rfl hrg ?_ ?_)
      | gi_in)
    · intro hc0 hl0
      gi_wp2
      go_end0
      exact ⟨⟨_, rfl⟩, .inl ⟨ss, hC.done hrd hl0, hJs⟩⟩
    · intro x c kl yd yp w2 cnt2 hkey hlk hv hat hrg2 hlt hg2 hs2 hen
      obtain ⟨x', ex, rfl⟩ := key_of_i64 hrd hkey hat
      obtain rfl : x = (x' : Int) := (Value.int.inj ex).2
      have hJ2 : J ss w2 := hJ ss wr w2 (some W.heap.size) hJs hg2 (fun r e => by cases e; exact ⟨Nat.le_refl _, hrg.iter_walk⟩)
      obtain ⟨fn, tmps, assign, body, hy, hR⟩ := HY.out ss x' w2 hJ2 (by omega)
      have hC2 := hC.step hlk hat
      unfold encB at hy
      clear hs2
      gi_wp2
      refine hR.mono ?_
      rintro e W3 (⟨rfl, hJ3, hk3⟩ | ⟨rfl, hJx3⟩)
      · gi_wp2
        have hrg3 := hrg2.of_walks hk3
        go_roundw
        case rel => exact ⟨_, cnt2, ss ++ [x'], hrg3, by simp; omega, hC2, hJ3⟩
        case measure => rw [hrg3.left_eq, hrg.left_eq]; exact hlt
      · gi_wp2
        refine bodyPost_ret (results_none rfl _ _ _) rfl ?_
        exact ⟨⟨_, rfl⟩, .inr ⟨ss ++ [x'], trivial, hJx3⟩⟩
end Go.Proofs.Ytenloljcaolkfaa
