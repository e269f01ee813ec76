/- A range over a function whose iterator turns memory of its own between two rounds: the statement's law, with invariants that the caller names. slices.Chunk's iterator. -/
import Derived.RangeFuncNested
import Derived.RangeFuncBound
import Derived.RangeFuncCalls
import Derived.RangeFuncLeaves
import Derived.Shelf.Abstract
import Derived.Shelf.RegionOpen
import Derived.WalkKit
import Derived.OwnWalkIn
import Derived.TacticsInMore
import Derived.LoopNIn
import Derived.LoopIn
import Derived.Test.YtpalmobmabkadaaGreatDoorSegsZM
import Derived.Test.YtpalmobmabkadaaGreatDoorFzeroZM
import Derived.Sort.QuietIn
namespace Go.Proofs.YtpalmobmabkadaaGreatDoor
set_option maxRecDepth 20000
open Go.RowKit

variable {F : Fence} {n : Nat} {P : Program}

/-- The two blocks of the loop that began at B lie as they lay. -/
def KeepsRec (B : Nat) (W W' : World) : Prop := W.heap.size ≤ W'.heap.size ∧ W'.heap[B]? = W.heap[B]? ∧ W'.heap[B + 1]? = W.heap[B + 1]?
theorem KeepsRec.refl (B : Nat) (W : World) : KeepsRec B W W := ⟨Nat.le_refl _, rfl, rfl⟩
theorem KeepsRec.trans {B : Nat} {W W1 W2 : World} (h : KeepsRec B W W1) (k : KeepsRec B W1 W2) : KeepsRec B W W2 := ⟨Nat.le_trans h.1 k.1, k.2.1.trans h.2.1, k.2.2.trans h.2.2⟩
theorem KeepsRec.grown {B : Nat} {W W' : World} {row : Option Nat} (h : W.grownBy W' row) (hB : B + 1 < W.heap.size) (hr : ∀ r, row = some r → r ≠ B ∧ r ≠ B + 1) : KeepsRec B W W' :=
  ⟨h.size, h.block B (by omega) (fun e => (hr B e.symm).1 rfl), h.block (B + 1) hB (fun e => (hr (B + 1) e.symm).2 rfl)⟩
theorem KeepsRec.below {B N : Nat} {W W' : World} (h : Below N W W') (hB : B + 1 < N) : KeepsRec B W W' := ⟨h.size, h.block B (by omega), h.block (B + 1) hB⟩

def postJ (B : Nat) (J : Nat → World → Prop) (Jx : Code → World → Prop) (k : Nat) (W : World) : Exit → Act → World → Prop
  | .normal, _, W' => KeepsRec B W W' ∧ J (k + 1) W'
  | .ret, _, W' => KeepsRec B W W' ∧ Jx .ret W'
  | .exit id, _, W' => KeepsRec B W W' ∧ Jx (.exit id) W'
  | .goto t, _, W' => KeepsRec B W W' ∧ Jx (.goto t) W'
  | .panic _, _, _ => False
  | .outgrown, _, _ => False

/-- What holds of worlds, and abides the turn of the two blocks of the loop that began at B. -/
def Robust (B : Nat) (J : World → Prop) : Prop := ∀ W r o, J W → (r = B ∨ r = B + 1) → r < W.heap.size → J (W.putObj r o)

theorem wpIn_rangeJ {α : Type} {g : Operand} {ps : Array Tmp} {assign body : Code} {Q : Exit → Act → World → Prop} {a : Act} {w : World}
    (hro : F.round = none) (h1 : 1 ≤ n) {gf : Nat} {lb : Array Value} (hg : a.eval g = .func (.func gf) #[] lb) (hFg : F.fn gf) (eg : ∀ args w, (callFunc gf args).run P w = .ok (.enter gf args) w)
    {encs : α → Array Value} (hps : ∀ x, (encs x).size = ps.size)
    (J : Nat → World → Prop) (J' : Nat → α → World → Prop) (Jx : Code → World → Prop) (N : Nat)
    (hJ : ∀ k, Robust w.heap.size (J k)) (hJ' : ∀ k x, Robust w.heap.size (J' k x)) (hJx : ∀ c, Robust w.heap.size (Jx c))
    (h0 : ∀ o o', J 0 ((w.alloc o).alloc o'))
    (hiter : ∀ (l : Nat) (R Rx : World → Prop), (∀ W W', R W → KeepsRec w.heap.size W W' → R W') →
      (∀ k x W, k < N → J' k x W → R W → YieldAt F (n - 1 - 1) P l (encs x) W fun e W' => (e = .returned (.bool true) ∧ J (k + 1) W' ∧ R W') ∨ (e = .returned (.bool false) ∧ Rx W')) →
      (∀ W, R W → w.heap.size + 1 < W.heap.size) → (∀ W, Rx W → ∃ c, Jx c W) →
      ∀ W, J 0 W → R W → CallsIn F (n - 1) P gf (#[.func (.yield l) #[] #[]] ++ lb) W fun e W' => (∃ v, e = .returned v) ∧ ((J N W' ∧ R W') ∨ Rx W'))
    (a₁ : α → Act)
    (hassign : ∀ (l : Nat) (x : α) (W : World) (K : Act → World → Prop), K (a₁ x) W →
      assign.wpIn (F.inRound l) (n - 1 - 1) P (Exit.then K (fun _ _ _ => False)) { tmps := (ps.zip (encs x)).foldl (fun t (p, v) => t.setIfInBounds p v) a.tmps, defers := [] } W)
    (hbody : ∀ (l k : Nat) (x : α) (W : World), k < N → J' k x W → w.heap.size + 1 < W.heap.size → body.wpIn (F.inRound l) (n - 1 - 1) P (postJ w.heap.size J Jx k W) (a₁ x) W)
    (hdone : ∀ (W : World), J N W → W.heap[w.heap.size]? = some (.deferred (some [])) → Q .normal { a with defers := { target := .collected w.heap.size, args := #[] } :: a.defers } W)
    (hstop : ∀ (c : Code) (W : World), Jx c W → W.heap[w.heap.size]? = some (.deferred (some [])) → c.wpIn F n P Q { a with defers := { target := .collected w.heap.size, args := #[] } :: a.defers } W) :
    (Code.rangeFunc g ps assign body).wpIn F n P Q a w := by
  refine wpIn_rangeFunc ?_
  intro fn hfn
  rw [hro]
  obtain ⟨rec, hrec⟩ : ∃ rec : LoopState → Option Code → Loop, rec = fun st pe => { state := st, pending := pe, fn, tmps := a.tmps, params := ps, assign, body, defers := w.heap.size } := ⟨_, rfl⟩
  obtain ⟨W1, hW1⟩ : ∃ W1, (w.alloc (.deferred (some []))).alloc (.loop (rec .ready none)) = W1 := ⟨_, rfl⟩
  have hL1 : W1.heap[w.heap.size + 1]? = some (.loop (rec .ready none)) := by
    rw [← hW1]; have := World.alloc_heap_new (w.alloc (.deferred (some []))) (.loop (rec .ready none)); rwa [World.size_alloc] at this
  have hK1 : W1.heap[w.heap.size]? = some (.deferred (some [])) := by
    rw [← hW1]; exact (Below.heap_alloc _ _ _ (by simp)).trans (World.alloc_heap_new w _)
  have hI1 : J 0 W1 := by rw [← hW1]; exact h0 _ _
  refine ⟨w.heap.size + 1, [{ target := .collected w.heap.size, args := #[] }], W1, { target := .fn (.func gf) lb, args := #[.func (.yield (w.heap.size + 1)) #[] #[]] }, W1, gf,
    #[.func (.yield (w.heap.size + 1)) #[] #[]] ++ lb, W1, ?_, ?_, ?_, ?_, fun _ => h1, ?_⟩
  · rw [← hW1, hrec]; exact run_enterLoop_outer _ _ _ _ _
  · simp only [resolve, hg]
    simp [go_sem]
  · intro f' hf'; simp [Target.leads] at hf'; subst hf'; exact hFg
  · simp [invoke, go_sem, eg]
  · refine (hiter (w.heap.size + 1)
      (fun W => W.heap[w.heap.size + 1]? = some (.loop (rec .ready none)) ∧ W.heap[w.heap.size]? = some (.deferred (some [])))
      (fun W => ∃ c, Jx c W ∧ W.heap[w.heap.size + 1]? = some (.loop (rec .done (some c))) ∧ W.heap[w.heap.size]? = some (.deferred (some [])))
      (fun W W' hs hk => ⟨hk.2.2.trans hs.1, hk.2.1.trans hs.2⟩)
      ?_ (fun W hs => (Array.getElem?_eq_some_iff.1 hs.1).1) (fun W ⟨c, hc, _⟩ => ⟨c, hc⟩) W1 hI1 ⟨hL1, hK1⟩).mono ?_
    · rintro k x W hlen hi ⟨hl, hk⟩
      have hlt : w.heap.size + 1 < W.heap.size := (Array.getElem?_eq_some_iff.1 hl).1
      have hy := run_yield (P := P) (args := encs x) hl (by rw [hrec]; exact hps x)
      rw [hrec] at hy
      refine ⟨fn, _, assign, body, hy, roundIn_of_wpIn hfn (hassign _ x W _ ⟨_, run_beginRound hl (by rw [hrec]), ?_⟩)⟩
      have hl2 : (W.putObj (w.heap.size + 1) (.loop { rec .ready none with state := .busy })).heap[w.heap.size + 1]? = some (.loop { rec .ready none with state := .busy }) := World.putObj_heap_same hlt
      have hk2 : (W.putObj (w.heap.size + 1) (.loop { rec .ready none with state := .busy })).heap[w.heap.size]? = some (.deferred (some [])) := (World.putObj_heap_other (by omega)).trans hk
      refine wpIn_mono (hbody _ k x _ hlen (hJ' k x _ _ _ hi (.inr rfl) hlt) (by rw [World.putObj_size]; exact hlt)) ?_
      have fin : ∀ (jump : Option Code) (W3 : World), KeepsRec w.heap.size (W.putObj (w.heap.size + 1) (.loop { rec .ready none with state := .busy })) W3 →
          (Instr.endRound (w.heap.size + 1) jump).run P W3 = .ok (.bool jump.isNone) (W3.putObj (w.heap.size + 1) (.loop (rec (if jump.isNone then .ready else .done) jump))) ∧
          w.heap.size + 1 < W3.heap.size ∧
          (W3.putObj (w.heap.size + 1) (.loop (rec (if jump.isNone then .ready else .done) jump))).heap[w.heap.size + 1]? = some (.loop (rec (if jump.isNone then .ready else .done) jump)) ∧
          (W3.putObj (w.heap.size + 1) (.loop (rec (if jump.isNone then .ready else .done) jump))).heap[w.heap.size]? = some (.deferred (some [])) := fun jump W3 hk3 => by
        have hl3 := hk3.2.2.trans hl2
        have := run_endRound (P := P) jump hl3
        rw [hrec] at this ⊢
        have hlt3 := (Array.getElem?_eq_some_iff.1 hl3).1
        exact ⟨this, hlt3, World.putObj_heap_same hlt3, (World.putObj_heap_other (by omega)).trans (hk3.2.1.trans hk2)⟩
      rintro e a3 W3 hp
      cases e with
      | normal =>
        obtain ⟨hk3, hi3⟩ := hp
        obtain ⟨hr, hl3, hl4, hk4⟩ := fin none W3 hk3
        exact ⟨_, _, hr, .inl ⟨rfl, hJ _ _ _ _ hi3 (.inr rfl) hl3, hl4, hk4⟩⟩
      | ret =>
        obtain ⟨hk3, hi3⟩ := hp
        obtain ⟨hr, hl3, hl4, hk4⟩ := fin (some .ret) W3 hk3
        exact ⟨_, _, hr, .inr ⟨rfl, .ret, hJx _ _ _ _ hi3 (.inr rfl) hl3, hl4, hk4⟩⟩
      | exit id =>
        obtain ⟨hk3, hi3⟩ := hp
        obtain ⟨hr, hl3, hl4, hk4⟩ := fin (some (.exit id)) W3 hk3
        exact ⟨_, _, hr, .inr ⟨rfl, .exit id, hJx _ _ _ _ hi3 (.inr rfl) hl3, hl4, hk4⟩⟩
      | goto t =>
        obtain ⟨hk3, hi3⟩ := hp
        obtain ⟨hr, hl3, hl4, hk4⟩ := fin (some (.goto t)) W3 hk3
        exact ⟨_, _, hr, .inr ⟨rfl, .goto t, hJx _ _ _ _ hi3 (.inr rfl) hl3, hl4, hk4⟩⟩
      | panic ch => exact hp.elim
      | outgrown => exact hp.elim
    · rintro e W2 ⟨⟨v, rfl⟩, (⟨hi, hl, hk⟩ | ⟨c, hi, hl, hk⟩)⟩
      · have hlt := (Array.getElem?_eq_some_iff.1 hl).1
        exact ⟨none, _, by have := run_endLoop (P := P) hl (by rw [hrec]; simp); rw [hrec] at this; exact this, hdone _ (hJ _ _ _ _ hi (.inr rfl) hlt) ((World.putObj_heap_other (by omega)).trans hk)⟩
      · have hlt := (Array.getElem?_eq_some_iff.1 hl).1
        exact ⟨some c, _, by have := run_endLoop (P := P) hl (by rw [hrec]; simp); rw [hrec] at this; exact this, hstop c _ (hJx _ _ _ _ hi (.inr rfl) hlt) ((World.putObj_heap_other (by omega)).trans hk)⟩

end Go.Proofs.YtpalmobmabkadaaGreatDoor

namespace Go.Proofs.YtpalmobmabkadaaGreatDoor
set_option maxRecDepth 20000
open Go.RowKit
attribute [local go_sem] Oper.semAt_some

/-- The chunk number k. -/
def chunkv (b o n k : Nat) : Value := .slice (some ⟨b, o + 64 * k, none⟩) (min 64 (n - 64 * k)) (min 64 (n - 64 * k))

set_option maxHeartbeats 2000000 in
set_option maxRecDepth 8000 in
theorem chunk1_in (fr l b1 b2 b o n c : Nat) (J : Nat → World → Prop) (R Rx : World → Prop) (hfr : 2 ≤ fr) (hnc : n ≤ c) (hn : n ≤ 1000000)
    (hbox : ∀ k W, J k W → R W → W.cell? ⟨b1, 0, none⟩ = some (.slice (some ⟨b, o, none⟩) n c) ∧ W.cell? ⟨b2, 0, none⟩ = some (.int .i64 64))
    (hdrew : ∀ k W d, J k W → R W → J k (W.drewN d) ∧ R (W.drewN d))
    (hY : ∀ k W, 64 * k < n → J k W → R W → YieldAt Fence.wide (fr - 1) Tryz.prog l #[chunkv b o n k] W fun e W' => (e = .returned (.bool true) ∧ J (k + 1) W' ∧ R W') ∨ (e = .returned (.bool false) ∧ Rx W'))
    (W : World) (h0 : J 0 W) (hR : R W) :
    CallsIn Fence.wide fr Tryz.prog 130 (#[.func (.yield l) #[] #[]] ++ #[.pointer (some ⟨b1, 0, none⟩), .pointer (some ⟨b2, 0, none⟩)]) W
      fun e W' => (∃ v, e = .returned v) ∧ ((J ((n + 63) / 64) W' ∧ R W') ∨ Rx W') := by
  refine callsIn_of_wp Tryz.func130 rfl trivial ?_ rfl
  simp only [Tryz.ntmps130, List.size_toArray, List.length_cons, List.length_nil, Nat.reduceAdd, Nat.reduceSub, Array.replicate_succ, Array.replicate_zero, List.push_toArray, List.append_toArray, List.nil_append, List.cons_append]
  gi_wp2
  gi_loopw [4] (fun ir wr => ∃ k : Nat, k ≤ (n + 63) / 64 ∧ ir = .int .i64 ((64 * k : Nat) : Int) ∧ J k wr ∧ R wr) (fun ir _ => (n + 63) / 64 - (intOf ir).toNat / 64)
  case atStart => exact ⟨0, Nat.zero_le _, rfl, h0, hR⟩
  case round =>
    obtain ⟨k, hk, rfl, hJ, hR⟩ := hrel
    obtain ⟨c1, c2⟩ := hbox k wr hJ hR
    obtain ⟨i, hi⟩ : ∃ i, i = 64 * k := ⟨_, rfl⟩
    rw [← hi]
    by_cases hlt : i < n
    · obtain ⟨m, hm⟩ : ∃ m, m = min 64 (n - i) := ⟨_, rfl⟩
      have hm1 : 1 ≤ m := by omega
      have hm2 : i + m ≤ n := by omega
      have hmi : min (64 : Int) ((n : Int) - (i : Int)) = (m : Int) := by omega
      have hmj : (if (n : Int) - (i : Int) < 64 then (n : Int) - (i : Int) else 64) = (m : Int) := by split <;> omega
      have hmn : min (64 : Int) (((n - i : Nat) : Int)) = (m : Int) := by omega
      have HD := Lib.hid (fun d => hdrew k wr d hJ hR)
      have HY := Lib.hid hY
      have HBX := Lib.hid hbox
      have hin : (i : Int) < (n : Int) := by omega
      have hi6 : i ≤ 1000000 := by omega
      have HK := Lib.hid hk
      have HI := Lib.hid hi
      have HM := Lib.hid hm
      clear hbox hdrew hY hJ hR hk hi hm
      gi_wp2
      gi_quiet (fail)
      have hmk : (if ((n - i : Nat) : Int) < 64 then ((n - i : Nat) : Int) else 64) = (m : Int) := by split <;> omega
      rw [hmk]
      clear hmk hmi hmj hmn
      obtain ⟨hJd, hRd⟩ := HD.out nq
      obtain ⟨fn, tmps, assign, body, hy, hRo⟩ := HY.out k _ (by have := HI.out; omega) hJd hRd
      have ec : chunkv b o n k = .slice (some ⟨b, o + i, none⟩) m m := by unfold chunkv; rw [← HI.out, ← HM.out]
      rw [ec] at hy
      have c1' : (wr.drewN nq).cell? ⟨b1, 0, none⟩ = some (.slice (some ⟨b, o, none⟩) n c) := c1
      have hs1 : ((i : Int) + (m : Int)).toNat - i = m := by omega
      gi_wp2
      refine ⟨fun _ => by omega, hRo.mono ?_⟩
      rintro e W3 (⟨rfl, hJ3, hR3⟩ | ⟨rfl, hx⟩)
      · obtain ⟨_, c2'⟩ := HBX.out (k + 1) W3 hJ3 hR3
        have HI2 : Hid (i + 64 = 64 * (k + 1)) := Lib.hid (by have := HI.out; omega)
        gi_wp2
        go_roundw
        case rel => exact ⟨k + 1, by have := HI.out; omega, by rw [← HI2.out]; rfl, hJ3, hR3⟩
        case measure => simp [intOf]; have := HI.out; omega
      · gi_wp2
        refine bodyPost_ret (results_none rfl _ _ _) rfl ?_
        exact ⟨⟨_, rfl⟩, .inr hx⟩
    · have hkn : k = (n + 63) / 64 := by omega
      have hin : decide ((i : Int) < (n : Int)) = false := by simp; omega
      have HKN := Lib.hid hkn
      clear hbox hdrew hY hk hkn hi
      gi_wp2
      go_end0
      rw [← HKN.out]
      exact ⟨⟨_, rfl⟩, .inl ⟨hJ, hR⟩⟩

end Go.Proofs.YtpalmobmabkadaaGreatDoor
