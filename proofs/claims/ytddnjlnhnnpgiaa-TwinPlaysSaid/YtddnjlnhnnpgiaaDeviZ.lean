/- slices.Chunk's iterator, of bytes of any length. A device: what is written. A device: what is written, the walk. -/
import Derived.Test.YtddnjlnhnnpgiaaFchunkZ
import Derived.Sort.QuietIn
import Derived.Test.YtddnjlnhnnpgiaaDevgZ
namespace Go.Proofs.Ytddnjlnhnnpgiaa
set_option maxRecDepth 20000
open Go.RowKit
attribute [local go_sem] Oper.semAt_some

/-- The chunk number k. -/
def chunkw (b o n k : Nat) : Value := .slice (some ⟨b, o + 64 * k, none⟩) (min 64 (n - 64 * k)) (min 64 (n - 64 * k))

set_option maxHeartbeats 2000000 in
set_option maxRecDepth 8000 in
theorem chunk2_in (fr l b1 b2 b o n c : Nat) (A : Option Addr) (hA : 0 < n → A = some ⟨b, o, none⟩) (J : Nat → World → Prop) (R Rx : World → Prop) (hfr : 2 ≤ fr) (hnc : n ≤ c) (hn : n ≤ 1000000)
    (hbox : ∀ k W, J k W → R W → W.cell? ⟨b1, 0, none⟩ = some (.slice A n c) ∧ W.cell? ⟨b2, 0, none⟩ = some (.int .i64 64))
    (hdrew : ∀ k W d, J k W → R W → J k (W.drewN d) ∧ R (W.drewN d))
    (hY : ∀ k W, 64 * k < n → J k W → R W → YieldAt Fence.wide (fr - 1) Try.prog l #[chunkw b o n k] W fun e W' => (e = .returned (.bool true) ∧ J (k + 1) W' ∧ R W') ∨ (e = .returned (.bool false) ∧ Rx W'))
    (W : World) (h0 : J 0 W) (hR : R W) :
    CallsIn Fence.wide fr Try.prog 71 (#[.func (.yield l) #[] #[]] ++ #[.pointer (some ⟨b1, 0, none⟩), .pointer (some ⟨b2, 0, none⟩)]) W
      fun e W' => (∃ v, e = .returned v) ∧ ((J ((n + 63) / 64) W' ∧ R W') ∨ Rx W') := by
  refine callsIn_of_wp Try.func71 rfl trivial ?_ rfl
  simp only [Try.ntmps71, List.size_toArray, List.length_cons, List.length_nil, Nat.reduceAdd, Nat.reduceSub, Array.replicate_succ, Array.replicate_zero, List.push_toArray, List.append_toArray, List.nil_append, List.cons_append]
  gi_wp2
  gi_loopw [4] (fun ir wr => ∃ k : Nat, k ≤ (n + 63) / 64 ∧ ir = .int .i64 ((64 * k : Nat) : Int) ∧ J k wr ∧ R wr) (fun ir _ => (n + 63) / 64 - (intOf ir).toNat / 64)
  case atStart => exact ⟨0, Nat.zero_le _, rfl, h0, hR⟩
  case round =>
    obtain ⟨k, hk, rfl, hJ, hR⟩ := hrel
    obtain ⟨c1, c2⟩ := hbox k wr hJ hR
    obtain ⟨i, hi⟩ : ∃ i, i = 64 * k := ⟨_, rfl⟩
    rw [← hi]
    by_cases hlt : i < n
    · obtain rfl := hA (by omega)
      obtain ⟨m, hm⟩ : ∃ m, m = min 64 (n - i) := ⟨_, rfl⟩
      have hm1 : 1 ≤ m := by omega
      have hm2 : i + m ≤ n := by omega
      have hmi : min (64 : Int) ((n : Int) - (i : Int)) = (m : Int) := by omega
      have hmj : (if (n : Int) - (i : Int) < 64 then (n : Int) - (i : Int) else 64) = (m : Int) := by split <;> omega
      have hmn : min (64 : Int) (((n - i : Nat) : Int)) = (m : Int) := by omega
      have HD := Lib.hid (fun d => hdrew k wr d hJ hR)
      have HY := Lib.hid hY
      have HBX := Lib.hid hbox
      have hin : (i : Int) < (n : Int) := by omega
      have hi6 : i ≤ 1000000 := by omega
      have HK := Lib.hid hk
      have HI := Lib.hid hi
      have HM := Lib.hid hm
      clear hbox hdrew hY hJ hR hk hi hm
      gi_wp2
      gi_quiet (fail)
      have hmk : (if ((n - i : Nat) : Int) < 64 then ((n - i : Nat) : Int) else 64) = (m : Int) := by split <;> omega
      try rw [hmk]
      clear hmk hmi hmj hmn
      obtain ⟨hJd, hRd⟩ := HD.out nq
      obtain ⟨fn, tmps, assign, body, hy, hRo⟩ := HY.out k _ (by have := HI.out; omega) hJd hRd
      have ec : chunkw b o n k = .slice (some ⟨b, o + i, none⟩) m m := by unfold chunkw; rw [← HI.out, ← HM.out]
      rw [ec] at hy
      have c1' : (wr.drewN nq).cell? ⟨b1, 0, none⟩ = some (.slice (some ⟨b, o, none⟩) n c) := c1
      have hs1 : ((i : Int) + (m : Int)).toNat - i = m := by omega
      gi_wp2
      refine ⟨fun _ => by omega, hRo.mono ?_⟩
      rintro e W3 (⟨rfl, hJ3, hR3⟩ | ⟨rfl, hx⟩)
      · obtain ⟨_, c2'⟩ := HBX.out (k + 1) W3 hJ3 hR3
        have HI2 : Hid (i + 64 = 64 * (k + 1)) := Lib.hid (by have := HI.out; omega)
        gi_wp2
        go_roundw
        case rel => exact ⟨k + 1, by have := HI.out; omega, by rw [← HI2.out]; rfl, hJ3, hR3⟩
        case measure => simp [intOf]; have := HI.out; omega
      · gi_wp2
        refine bodyPost_ret (results_none rfl _ _ _) rfl ?_
        exact ⟨⟨_, rfl⟩, .inr hx⟩
    · have hkn : k = (n + 63) / 64 := by omega
      have hin : decide ((i : Int) < (n : Int)) = false := by simp; omega
      have HKN := Lib.hid hkn
      clear hbox hdrew hY hk hkn hi
      gi_wp2
      go_end0
      rw [← HKN.out]
      exact ⟨⟨_, rfl⟩, .inl ⟨hJ, hR⟩⟩

end Go.Proofs.Ytddnjlnhnnpgiaa

namespace Go.Proofs.Ytddnjlnhnnpgiaa
set_option maxRecDepth 20000
open Go.RowKit
attribute [local go_sem] Oper.semAt_some

theorem power_ok (g : Nat) (w : World) (c4 : w.cell? ⟨g, 4, none⟩ = some (.bool false)) : Calls Try.prog 45 #[.pointer (some ⟨g, 0, none⟩)] w fun e w' => e = .returned (.int .i64 0) ∧ w = w' := power_at g false w c4
theorem results_cell1 {fn : Func} {p : Tmp} {tp : TypeId} (h : fn.results = #[.cell p tp]) (tmps : Array Value) {P : Program} {w : World} {a : Addr} {u : Value} (hp : tmps.getD p undef = .pointer (some a)) (h1 : (loadVar tp a).run P w = .ok u w) : (results fn tmps).run P w = .ok u w := by
  have hp' : tmps[p]?.getD undef = .pointer (some a) := by simpa using hp
  simp [results, h, hp', asAddr, h1]
theorem load_errno {w : World} {b : Nat} {E : Int} (h : w.cell? ⟨b, 0, none⟩ = some (.int .i64 E)) : (loadVar 33 ⟨b, 0, none⟩).run Try.prog w = .ok (.int .i64 E) w := by
  go_simp
theorem Rd.stay {w w' : World} {B sz n c : Nat} {A : Option Addr} {xs : List Value} (h : Rd w B sz A n c xs) (k : ∀ b o, A = some ⟨b, o, none⟩ → w'.heap[b]? = w.heap[b]?) : Rd w' B sz A n c xs := by
  obtain ⟨h1, h2, h3, h4⟩ := h
  refine ⟨h1, h2, h3, fun hn => ?_⟩
  obtain ⟨b, o, hA, hb, hc⟩ := h4 hn
  exact ⟨b, o, hA, hb, fun j u hu => (World.cell?_of_block (a := ⟨b, o + j, none⟩) (k b o hA)).trans (hc j u hu)⟩
theorem Rd.stayn {w w' : World} {B sz n c : Nat} {A : Option Addr} {xs : List Value} (h : Rd w B sz A n c xs) (k : 0 < n → ∀ b o, A = some ⟨b, o, none⟩ → b < B → w'.heap[b]? = w.heap[b]?) : Rd w' B sz A n c xs := by
  obtain ⟨h1, h2, h3, h4⟩ := h
  refine ⟨h1, h2, h3, fun hn => ?_⟩
  obtain ⟨b, o, hA, hb, hc⟩ := h4 hn
  exact ⟨b, o, hA, hb, fun j u hu => (World.cell?_of_block (a := ⟨b, o + j, none⟩) (k hn b o hA hb)).trans (hc j u hu)⟩
theorem write_nil (x : Int) (A : Option Addr) (n c : Nat) (w : World) : Calls Try.prog 38 #[.pointer none, .int .i64 x, .slice A n c] w fun e w' => e = .returned (.int .i64 1) ∧ Below w.heap.size w w' := by
  go_enter Try.func38, Try.ntmps38
  go_wp2_with (first
    | (go_at_call 45; refine (power_nil _).mono ?_; rintro e w1 ⟨rfl, rfl⟩)
    | fail)
  obtain ⟨W, hW, hz, hr0, hr1, hr2, hb⟩ := boxes3 w #[.pointer none] #[.int .i64 x] #[.int .i64 1] 24 3 33
  rw [← hW]
  exact bodyPost_ret (results_cell1 rfl _ rfl (load_errno (cell_of_row _ _ 0 _ _ _ hr2))) rfl ⟨rfl, hb⟩
theorem write_down (g : Nat) (x : Int) (A : Option Addr) (n c : Nat) (w : World) (c4 : w.cell? ⟨g, 4, none⟩ = some (.bool true)) : Calls Try.prog 38 #[.pointer (some ⟨g, 0, none⟩), .int .i64 x, .slice A n c] w fun e w' => e = .returned (.int .i64 50) ∧ Below w.heap.size w w' := by
  have hgl := block_lt_of_cell c4
  have hp : ∀ (W : World), W.cell? ⟨g, 4, none⟩ = some (.bool true) → Calls Try.prog 45 #[.pointer (some ⟨g, 0, none⟩)] W fun e w' => e = .returned (.int .i64 50) ∧ W = w' := fun W c => power_at g true W c
  obtain ⟨W0, hW0, hz0, s0, s1, s2, hb0⟩ := boxes3 w #[.pointer (some ⟨g, 0, none⟩)] #[.int .i64 x] #[.int .i64 0] 24 3 33
  have d4 := (hb0.cell (p := ⟨g, 4, none⟩) hgl).trans c4
  rw [hW0] at d4
  have HD4 := Lib.hid d4
  have HPP := Lib.hid hp
  clear d4 hp hW0 hz0 s0 s1 s2 hb0
  go_enter Try.func38, Try.ntmps38
  go_wp2_with (first
    | (go_at_call 45; refine (HPP.out _ HD4.out).mono ?_; rintro e w1 ⟨rfl, rfl⟩)
    | fail)
  obtain ⟨W, hW, hz, hr0, hr1, hr2, hb⟩ := boxes3 w #[.pointer (some ⟨g, 0, none⟩)] #[.int .i64 x] #[.int .i64 50] 24 3 33
  rw [← hW]
  exact bodyPost_ret (results_cell1 rfl _ rfl (load_errno (cell_of_row _ _ 0 _ _ _ hr2))) rfl ⟨rfl, hb⟩
theorem chunk_any2 (A : Option Addr) (n c : Nat) (w : World) :
    Calls Try.prog 49 #[.slice A n c, .int .i64 64] w fun e w' => e = .returned (.func (.func 71) #[] #[.pointer (some ⟨w.heap.size, 0, none⟩), .pointer (some ⟨w.heap.size + 1, 0, none⟩)]) ∧
      w'.heap[w.heap.size]? = some (.cells #[.slice A n c] 38 (0, 0)) ∧ w'.heap[w.heap.size + 1]? = some (.cells #[.int .i64 64] 3 (0, 0)) ∧ w'.heap.size = w.heap.size + 2 ∧ Below w.heap.size w w' := by
  go_enter Try.func49, Try.ntmps49
  go_wp2
  obtain ⟨W0, hW0, hz0, hr0, hr1, hb0⟩ := boxes2 w #[.slice A n c] #[.int .i64 64] 38 3
  rw [← hW0]
  go_ret
  exact ⟨rfl, hr0, hr1, hz0, hb0⟩

/-- A sector of a text. -/
def sct (l : List UInt8) (i : Nat) : List UInt8 := (l.drop (64 * i)).take 64
def Dv.write (d : Dv) (x : Int) (l : List UInt8) : Nat → Dv × Int
  | 0 => (d, 0)
  | k + 1 => if (d.write x l k).2 ≠ 0 then d.write x l k else (((d.write x l k).1.chg (x + k, pad (sct l k))).step, pw ((d.write x l k).1.chg (x + k, pad (sct l k))).step.down)

theorem Dv.write_pw (d : Dv) (x : Int) (l : List UInt8) (j : Nat) : (d.write x l j).2 = 0 ∨ (d.write x l j).2 = 50 := by
  induction j with
  | zero => exact .inl rfl
  | succ j ih =>
    rw [Dv.write]
    split
    · exact ih
    · unfold pw; simp only; split
      · exact .inr rfl
      · exact .inl rfl
theorem Dv.write_stays (d : Dv) (x : Int) (l : List UInt8) (j k : Nat) (h : j ≤ k) (he : (d.write x l j).2 ≠ 0) : d.write x l k = d.write x l j := by
  induction k with
  | zero => obtain rfl : j = 0 := by omega
            rfl
  | succ k ih =>
    rcases Nat.lt_or_ge j (k + 1) with h1 | h1
    · have := ih (by omega)
      rw [Dv.write, if_pos (by rw [this]; exact he), this]
    · obtain rfl : j = k + 1 := by omega
      rfl
theorem Dv.write_good (d : Dv) (x : Int) (l : List UInt8) (j : Nat) (he : (d.write x l j).2 = 0) : (d.write x l j).1.done = d.done + j ∧ (d.write x l j).1.ws.length = d.ws.length + j ∧ (d.write x l j).1.n = d.n ∧ (d.down = false → (d.write x l j).1.down = false) := by
  induction j with
  | zero => exact ⟨rfl, rfl, rfl, fun h => h⟩
  | succ j ih =>
    rw [Dv.write] at he ⊢
    by_cases h0 : (d.write x l j).2 ≠ 0
    · rw [if_pos h0] at he
      exact absurd he h0
    · rw [if_neg h0] at he ⊢
      obtain ⟨h1, h2, h3, _⟩ := ih (Decidable.not_not.1 h0)
      refine ⟨?_, ?_, h3, fun _ => ?_⟩
      · show (d.write x l j).1.done + 1 = _; omega
      · show ((d.write x l j).1.ws ++ [_]).length = _
        rw [List.length_append, h2]; simp; omega
      · simp only at he ⊢
        unfold pw at he
        split at he
        · cases he
        · rename_i hh; simpa using hh

/-- Between two rounds. -/
structure WJ (w : World) (B g bs bl k : Nat) (v : Value) (d : Dv) (x : Int) (A : Option Addr) (n c : Nat) (l : List UInt8) (j : Nat) (W : World) : Prop where
  e : (d.write x l j).2 = 0
  p : W.heap[w.heap.size]? = some (.cells #[.pointer (some ⟨g, 0, none⟩)] 24 (0, 0))
  a : W.heap[w.heap.size + 1]? = some (.cells #[.int .i64 (x + j)] 3 (0, 0))
  r : W.heap[w.heap.size + 2]? = some (.cells #[.int .i64 0] 33 (0, 0))
  b1 : W.heap[w.heap.size + 3]? = some (.cells #[.slice A n c] 38 (0, 0))
  b2 : W.heap[w.heap.size + 4]? = some (.cells #[.int .i64 64] 3 (0, 0))
  dev : ∃ v', Dev W B g bs bl v' k (d.write x l j).1 ∧ ∀ q, v'.ownBlock = some q → v.ownBlock = some q ∨ w.heap.size + 7 ≤ q
  kp : Keeps (Foot g bs bl v) w W
section
variable {w W W' : World} {B g bs bl k : Nat} {v : Value} {d : Dv} {x : Int} {A : Option Addr} {n c : Nat} {l : List UInt8} {j : Nat}
theorem WJ.step (h : WJ w B g bs bl k v d x A n c l j W) (hf : ∀ i, Foot g bs bl v i → i < w.heap.size) {row : Option Nat} (hg : W.grownBy W' row) (hr : ∀ r, row = some r → w.heap.size + 5 ≤ r ∧ (r < w.heap.size + 7 ∨ W.heap.size ≤ r)) : WJ w B g bs bl k v d x A n c l j W' := by
  have far : ∀ b, b < w.heap.size + 5 → some b ≠ row := fun b hb e => by have := hr b e.symm; omega
  obtain ⟨v', h1, h2⟩ := h.dev
  refine ⟨h.e, row_far h.p hg (far _ (by omega)), row_far h.a hg (far _ (by omega)), row_far h.r hg (far _ (by omega)), row_far h.b1 hg (far _ (by omega)), row_far h.b2 hg (far _ (by omega)), ⟨v', ?_, h2⟩, h.kp.grown hg (fun r e => .inr (by have := hr r e; omega))⟩
  refine h1.keeps (F := fun i => some i = row) ((Keeps.refl _ _).grown hg (fun r e => .inl e.symm)) (fun i hi hfi => ?_)
  have h3 := hr i hi.symm
  have h4 := (h1.foot_lt hfi).2
  rcases hfi with e | e | e | e
  · have := hf i (.inl e); omega
  · have := hf i (.inr (.inl e)); omega
  · have := hf i (.inr (.inr (.inl e))); omega
  · rcases h2 i e with h5 | h5
    · have := hf i (.inr (.inr (.inr h5))); omega
    · omega
theorem WJ.below (h : WJ w B g bs bl k v d x A n c l j W) (hf : ∀ i, Foot g bs bl v i → i < w.heap.size) (hb : Below W.heap.size W W') : WJ w B g bs bl k v d x A n c l j W' :=
  h.step hf (below_grown hb none) (fun r e => by cases e)
theorem WJ.drewN (h : WJ w B g bs bl k v d x A n c l j W) (hf : ∀ i, Foot g bs bl v i → i < w.heap.size) (m : Nat) : WJ w B g bs bl k v d x A n c l j (W.drewN m) :=
  h.below hf ⟨rfl, rfl, rfl, Nat.le_refl _, fun _ _ => rfl⟩
theorem WJ.robust (hf : ∀ i, Foot g bs bl v i → i < w.heap.size) : Robust (w.heap.size + 5) (WJ w B g bs bl k v d x A n c l j) := fun W r o h hr hlt =>
  h.step hf (grownBy_putObj' W r o) (fun q e => by have := Option.some.inj e; omega)
end
end Go.Proofs.Ytddnjlnhnnpgiaa

namespace Go.Proofs.Ytddnjlnhnnpgiaa
set_option maxRecDepth 20000
open Go.RowKit
attribute [local go_sem] Oper.semAt_some

/-- What a write leaves. -/
def Wrote (w : World) (B g bs bl k : Nat) (v : Value) (d' : Dv) (w' : World) : Prop := ∃ v', Dev w' B g bs bl v' k d' ∧ Keeps (Foot g bs bl v) w w' ∧ ∀ q, v'.ownBlock = some q → v.ownBlock = some q ∨ w.heap.size ≤ q

set_option maxHeartbeats 4000000 in
set_option maxRecDepth 8000 in
theorem write_good {w : World} {B g bs bl k : Nat} {v : Value} {d : Dv} (h : Dev w B g bs bl v k d) (hd : d.down = false) (x : Int) (A : Option Addr) (n c : Nat) (l : List UInt8) (hl : Rd w w.heap.size 1 A n c (u8s l)) (hsep : 0 < n → ∀ b o, A = some ⟨b, o, none⟩ → ¬ Foot g bs bl v b) (hdone : d.done ≤ 800000000) (hws : d.ws.length ≤ 900000) (hx : 0 ≤ x) (hm : x + (n + 63) / 64 ≤ d.n) (hn6 : n ≤ 1000000) :
    Calls Try.prog 38 #[.pointer (some ⟨g, 0, none⟩), .int .i64 x, .slice A n c] w fun e w' => e = .returned (.int .i64 (d.write x l ((n + 63) / 64)).2) ∧ Wrote w B g bs bl k v (d.write x l ((n + 63) / 64)).1 w' := by
  have c4 := h.c4
  rw [hd] at c4
  have hn := h.ok.n
  have c0 := h.c0
  have HD := Lib.hid hd
  have hnn : n ≤ 4194304 := by omega
  have hW := fun (W : World) (c0 : W.cell? ⟨g, 0, none⟩ = some (.int .i64 (d.n : Int))) => within_at g d.n x (((n : Int) + 63) / 64) W c0 hn (by omega)
  rw [show withinB d.n x (((n : Int) + 63) / 64) = true from by unfold withinB; simp; omega] at hW
  have HW := Lib.hid hW
  have hNd := fun W => need_any (n : Int) W (by omega) (by omega)
  have HN := Lib.hid hNd
  have HH := Lib.hid h
  have hgl := h.lt
  have hni : (n : Int) ≤ 4194304 := by omega
  have hf : ∀ i, Foot g bs bl v i → i < w.heap.size := fun i hi => (h.foot_lt hi).2
  have hnc := hl.1
  have hln : l.length = n := by have := hl.len; rwa [u8s_len] at this
  obtain ⟨b, o, hA, hcell⟩ : ∃ b o, (0 < n → A = some ⟨b, o, none⟩) ∧ ∀ W, Keeps (Foot g bs bl v) w W → ∀ i, 64 * i < n → Rd W W.heap.size 1 (some ⟨b, o + 64 * i, none⟩) (min 64 (n - 64 * i)) (min 64 (n - 64 * i)) (u8s (sct l i)) := by
    by_cases h0 : 0 < n
    · obtain ⟨b, o, rfl, hb, _⟩ := hl.2.2.2 h0
      refine ⟨b, o, fun _ => rfl, fun W hW i hi => ?_⟩
      have h1 := ((hl.stayn (w' := W) (fun h0 b' o' e _ => by cases e; exact hW.block b hb (hsep h0 b o rfl))).more hW.size).cut (k := 64 * i) (m := min 64 (n - 64 * i)) (by omega)
      have e : ((u8s l).drop (64 * i)).take (min 64 (n - 64 * i)) = u8s (sct l i) := by
        unfold sct
        rw [u8s_take, u8s_drop]
        rcases Nat.le_total 64 (n - 64 * i) with h2 | h2
        · rw [Nat.min_eq_left h2]
        · rw [Nat.min_eq_right h2, List.take_of_length_le (by rw [List.length_drop, u8s_len, hln]; exact Nat.le_refl _), List.take_of_length_le (by rw [List.length_drop, u8s_len, hln]; exact h2)]
      rw [e, Option.map_some, addOff] at h1
      exact ⟨Nat.le_refl _, by unfold maxLen; omega, h1.2.2.1, h1.2.2.2⟩
    · exact ⟨0, 0, fun h => absurd h h0, fun W _ i hi => by omega⟩
  have HA := Lib.hid hA
  have HC := Lib.hid hcell
  have HDN := Lib.hid hdone
  have HWS := Lib.hid hws
  have HM := Lib.hid hm
  have HN65 := Lib.hid hn
  obtain ⟨PP, hPP⟩ : ∃ PP : Ending → World → Prop, PP = fun e w' => e = .returned (.int .i64 (d.write x l ((n + 63) / 64)).2) ∧ Wrote w B g bs bl k v (d.write x l ((n + 63) / 64)).1 w' := ⟨_, rfl⟩
  rw [← hPP]
  have HPP := Lib.hid hPP
  clear hPP hA hcell hln hdone hws hsep hl
  clear hW h hd hm hn hNd
  obtain ⟨W0, hW0, hz0, hr0, hr1, hr2, hb0⟩ := boxes3 w #[.pointer (some ⟨g, 0, none⟩)] #[.int .i64 x] #[.int .i64 0] 24 3 33
  have hD0 : Dev W0 B g bs bl v k d := HH.out.below hb0
  have d4 : W0.cell? ⟨g, 4, none⟩ = some (.bool false) := by have := hD0.c4; rwa [HD.out] at this
  have d0 := hD0.c0
  have e0 : W0.cell? ⟨w.heap.size, 0, none⟩ = some (.pointer (some ⟨g, 0, none⟩)) := cell_of_row W0 _ 0 _ _ _ hr0
  have e1 : W0.cell? ⟨w.heap.size + 1, 0, none⟩ = some (.int .i64 x) := cell_of_row W0 _ 0 _ _ _ hr1
  have HW0 := Lib.hid hW0
  have HZ0 := Lib.hid hz0
  clear hW0 hz0 c4 c0
  refine (callsIn_wide (n := 9)).1 ?_
  refine callsIn_of_wp_marks Try.func38 rfl trivial ?_ rfl
  simp only [Try.ntmps38, List.size_toArray, List.length_nil, List.length_cons, Nat.reduceAdd, Nat.reduceSub, Array.replicate_succ, Array.replicate_zero, List.push_toArray, List.append_toArray, List.nil_append, List.cons_append]
  gi_wp2_with (first
    | (refine ⟨trivial, ?_⟩; rw [← HW0.out]; gi_at_call 45; refine (callsIn_wide.2 (power_ok g _ d4)).mono ?_; rintro e w5 ⟨rfl, rfl⟩)
    | fail)
  refine wpIn_wide.2 ?_
  go_quiet ((first
    | (go_at_call 63; refine (HN.out _).mono ?_; rintro e w1 ⟨rfl, rfl⟩; exact ⟨rfl, _, rfl⟩)
    | (go_at_call 46; refine (HW.out (World.drewN W0 _) (by exact d0)).mono ?_; rintro e w1 ⟨rfl, rfl⟩; exact ⟨rfl, _, rfl⟩)))
  have hbq : Below w.heap.size w (W0.drewN nq) := ⟨hb0.os, hb0.tape, hb0.output, hb0.size, hb0.block⟩
  have hDq : Dev (W0.drewN nq) B g bs bl v k d := hD0.below ⟨rfl, rfl, rfl, Nat.le_refl _, fun _ _ => rfl⟩
  have hq0 : (W0.drewN nq).heap[w.heap.size]? = some (.cells #[.pointer (some ⟨g, 0, none⟩)] 24 (0, 0)) := hr0
  have hq1 : (W0.drewN nq).heap[w.heap.size + 1]? = some (.cells #[.int .i64 x] 3 (0, 0)) := hr1
  have hq2 : (W0.drewN nq).heap[w.heap.size + 2]? = some (.cells #[.int .i64 0] 33 (0, 0)) := hr2
  have HZq : Hid ((W0.drewN nq).heap.size = w.heap.size + 3) := HZ0
  clear hD0 d4 d0 e0 e1 hr0 hr1 hr2 hb0 HW0 HZ0
  generalize W0.drewN nq = W1 at *
  gi_wp2_with (first
    | (refine ⟨trivial, ?_⟩; gi_at_call 49; refine (callsIn_wide.2 (chunk_any2 _ _ _ _)).mono ?_; rintro e w5 ⟨rfl, hr5, hr6, hz5, hb5⟩)
    | fail)
  have hbw5 : Below w.heap.size w w5 := hbq.trans (hb5.mono (by have := HZq.out; omega))
  have p5 := row_below hq0 hb5
  have a5 := row_below hq1 hb5
  have r5 := row_below hq2 hb5
  have hD5 := hDq.below hb5
  rw [HZq.out] at hr5 hr6 hz5 ⊢
  have hJ0 : WJ w B g bs bl k v d x A n c l 0 w5 := ⟨rfl, p5, by rw [a5]; simp, r5, hr5, hr6, ⟨v, hD5, fun q hq => .inl hq⟩, Keeps.of_below hbw5⟩
  have hz0 : w5.heap.size = w.heap.size + 5 := by omega
  clear hr5 hr6 hz5 hb5 hbw5 p5 a5 r5 hD5 hq0 hq1 hq2 hbq hDq
  refine wpIn_rangeJ rfl (by omega) (gf := 71) (lb := #[.pointer (some ⟨w.heap.size + 3, 0, none⟩), .pointer (some ⟨w.heap.size + 3 + 1, 0, none⟩)]) rfl trivial (enters_of Try.func71 (by kernel_rfl) rfl)
    (encs := fun i : Nat => #[chunkw b o n i]) (fun _ => rfl)
    (fun j => WJ w B g bs bl k v d x A n c l j) (fun j i W => i = j ∧ WJ w B g bs bl k v d x A n c l j W)
    (fun cd W => cd = .ret ∧ (d.write x l ((n + 63) / 64)).2 = 50 ∧ W.heap[w.heap.size + 2]? = some (.cells #[.int .i64 50] 33 (0, 0)) ∧ ∃ v', Dev W B g bs bl v' k (d.write x l ((n + 63) / 64)).1 ∧ Keeps (Foot g bs bl v) w W ∧ ∀ q, v'.ownBlock = some q → v.ownBlock = some q ∨ w.heap.size + 7 ≤ q) ((n + 63) / 64) ?hJ ?hJ' ?hJx ?h0 ?hiter
    (fun i => { tmps := #[.pointer (some ⟨g, 0, none⟩), .int .i64 x, .slice A n c, .pointer (some ⟨w.heap.size, 0, none⟩), .pointer (some ⟨w.heap.size + 1, 0, none⟩), undef, .pointer (some ⟨w.heap.size + 1 + 1, 0, none⟩), .int .i64 0, chunkw b o n i, undef, .pointer (some ⟨g, 0, none⟩), .int .i64 0, .int .i64 0, .bool false, undef, .pointer (some ⟨g, 0, none⟩), .int .i64 x, .slice A n c, .int .i64 (n : Int), .int .i64 (((n : Int) + 63) / 64), .bool true, .bool false, .slice A n c, .func (.func 71) #[] #[.pointer (some ⟨w.heap.size + 3, 0, none⟩), .pointer (some ⟨w.heap.size + 3 + 1, 0, none⟩)], chunkw b o n i, undef, undef, undef, undef, undef, undef, undef, undef, undef], defers := [] })
    ?assign ?body ?done ?stop
  case hJ =>
    rw [hz0]
    exact fun j => WJ.robust hf
  case hJ' =>
    rw [hz0]
    exact fun j i W r o' hh hr hl => ⟨hh.1, WJ.robust hf W r o' hh.2 hr hl⟩
  case hJx =>
    rw [hz0]
    rintro cd W r o' ⟨h1, h2, h3, v', h4, h5, h6⟩ hr hl
    have hg := grownBy_putObj' W r o'
    refine ⟨h1, h2, row_far h3 hg (fun e => by have := Option.some.inj e; omega), v', ?_, h5.grown hg (fun q e => .inr (by have := Option.some.inj e; omega)), h6⟩
    refine h4.keeps (F := fun i => i = r) (Keeps.one hg) (fun i hi hfi => ?_)
    subst hi
    rcases hfi with e | e | e | e
    · have := hf i (.inl e); omega
    · have := hf i (.inr (.inl e)); omega
    · have := hf i (.inr (.inr (.inl e))); omega
    · rcases h6 i e with h7 | h7
      · have := hf i (.inr (.inr (.inr h7))); omega
      · omega
  case h0 =>
    intro o1 o2
    exact (hJ0.below hf ((Below.refl _ _).alloc (Nat.le_refl _) _)).below hf ((Below.refl _ _).alloc (Nat.le_refl _) _)
  case hiter =>
    intro l0 R Rx hR hY hRs hRx W hJW hRW
    refine (chunk2_in 8 l0 (w.heap.size + 3) (w.heap.size + 3 + 1) b o n c A HA.out (fun j => WJ w B g bs bl k v d x A n c l j) R Rx (by omega) hnc hn6 ?_ ?_ ?_ W hJW hRW)
    · exact fun j W hJ _ => ⟨cell_of_row W _ 0 _ _ _ hJ.b1, cell_of_row W _ 0 _ _ _ hJ.b2⟩
    · exact fun j W d' hJ hRj => ⟨hJ.drewN hf d', hR _ _ hRj ⟨Nat.le_refl _, rfl, rfl⟩⟩
    · exact fun j W hj hJ hRj => hY j j W (by omega) ⟨rfl, hJ⟩ hRj
  case assign =>
    intro l0 i W K hK
    gi_wp2
    exact hK
  case body =>
    rintro l0 j i W hj ⟨rfl, hJ⟩ hlt2
    rw [hz0] at hlt2
    obtain ⟨v', hD', hv'⟩ := hJ.dev
    obtain ⟨g1, g2, g3, g4⟩ := Dv.write_good d x l i hJ.e
    have hw1 : d.write x l (i + 1) = (((d.write x l i).1.chg (x + i, pad (sct l i))).step, pw ((d.write x l i).1.chg (x + i, pad (sct l i))).step.down) := by rw [Dv.write, if_neg (by rw [hJ.e]; simp)]
    have hsl := HC.out W hJ.kp i (by omega)
    have hnf : ∀ q, w.heap.size ≤ q → q < w.heap.size + 7 → ¬ Foot g bs bl v' q := by
      intro q h1 h2 hfq
      rcases hfq with e | e | e | e
      · have := hf q (.inl e); omega
      · have := hf q (.inr (.inl e)); omega
      · have := hf q (.inr (.inr (.inl e))); omega
      · rcases hv' q e with h5 | h5
        · have := hf q (.inr (.inr (.inr h5))); omega
        · omega
    have hnv : ∀ q, Foot g bs bl v' q → Foot g bs bl v q ∨ w.heap.size ≤ q := by
      intro q hfq
      rcases hfq with e | e | e | e
      · exact .inl (.inl e)
      · exact .inl (.inr (.inl e))
      · exact .inl (.inr (.inr (.inl e)))
      · rcases hv' q e with h5 | h5
        · exact .inl (.inr (.inr (.inr h5)))
        · exact .inr (by omega)
    have hC := change_any hD' (by rw [g1]; have := HDN.out; omega) (by rw [g2]; have := HWS.out; omega) (x + i) (by omega) (by rw [g3]; have := HM.out; omega) _ _ _ (sct l i) hsl (Nat.min_le_left _ _)
    unfold chunkw
    obtain ⟨m, hm'⟩ : ∃ m, m = min 64 (n - 64 * i) := ⟨_, rfl⟩
    rw [← hm'] at hC ⊢
    obtain ⟨d2, hd2⟩ : ∃ d2, d2 = ((d.write x l i).1.chg (x + i, pad (sct l i))).step := ⟨_, rfl⟩
    rw [← hd2] at hC hw1
    have e0 : W.cell? ⟨w.heap.size, 0, none⟩ = some (.pointer (some ⟨g, 0, none⟩)) := cell_of_row W _ 0 _ _ _ hJ.p
    have e1 : W.cell? ⟨w.heap.size + 1, 0, none⟩ = some (.int .i64 (x + i)) := cell_of_row W _ 0 _ _ _ hJ.a
    have HJ := Lib.hid hJ
    have HW1 := Lib.hid hw1
    have hik : (i : Int) ≤ 4194304 := by omega
    have hxk : x ≤ 65536 := by have := HM.out; have := HN65.out; omega
    have hkr : ∀ W2, Keeps (Foot g bs bl v') W W2 → KeepsRec (w.heap.size + 5) W W2 := fun W2 hK => ⟨hK.size, hK.block _ (by omega) (hnf _ (by omega) (by omega)), hK.block _ (by omega) (hnf _ (by omega) (by omega))⟩
    have HKR := Lib.hid hkr
    clear hm' hd2 hsl hkr hJ hw1 g1 g2 g3 g4 hD'
    cases hdn : d2.down with
    | false =>
      have hC0 : Calls Try.prog 64 #[.pointer (some ⟨g, 0, none⟩), .int .i64 (x + i), .slice (some ⟨b, o + 64 * i, none⟩) m m] W fun e w' => e = .returned (.int .i64 0) ∧ ∃ v'', Dev w' B g bs bl v'' k d2 ∧ Keeps (Foot g bs bl v') W w' ∧ (v''.ownBlock = v'.ownBlock ∨ ∀ q, v''.ownBlock = some q → W.heap.size ≤ q) := by
        rw [hdn] at hC
        exact hC
      have HC0 := Lib.hid hC0
      have HDN2 := Lib.hid hdn
      clear hC hC0 hdn
      gi_wp2_with (first
        | (refine ⟨trivial, ?_⟩; gi_at_call 64; refine (CallsIn.inRound l0 (callsIn_wide.2 HC0.out)).mono ?_; rintro e W2 ⟨rfl, v2, hD2, hK2, hv2⟩
           have d1 : W2.cell? ⟨w.heap.size + 1, 0, none⟩ = some (.int .i64 (x + i)) := hK2.cell e1 (hnf _ (by omega) (by omega))
           have f1 : W2.frozen? ⟨w.heap.size + 1, 0, none⟩ = false := frozen_of_row W2 _ 0 _ _ (hK2.row HJ.out.a (hnf _ (by omega) (by omega)))))
      have gs := setCell_grows W2 (w.heap.size + 1) 0 (.int .i64 (x + i + 1))
      have hn2 : ∀ q, w.heap.size ≤ q → q < w.heap.size + 7 → ¬ Foot g bs bl v2 q := by
        intro q h1 h2 hfq
        rcases hfq with e | e | e | e
        · exact hnf q h1 h2 (.inl e)
        · exact hnf q h1 h2 (.inr (.inl e))
        · exact hnf q h1 h2 (.inr (.inr (.inl e)))
        · rcases hv2 with h5 | h5
          · exact hnf q h1 h2 (.inr (.inr (.inr (h5 ▸ e))))
          · have := h5 q e; omega
      have hz2 := hK2.size
      have hJ := HJ.out
      refine ⟨by rw [hz0]; exact (HKR.out W2 hK2).trans (KeepsRec.grown gs (by omega) (fun r hr => by have := Option.some.inj hr; omega)), ⟨by rw [HW1.out]; show pw d2.down = 0; rw [HDN2.out]; rfl, ?_, ?_, ?_, ?_, ?_, ⟨v2, ?_, ?_⟩, ?_⟩⟩
      · exact row_far (hK2.row hJ.p (hnf _ (by omega) (by omega))) gs (fun e => by have := Option.some.inj e; omega)
      · have h1 := set_row (hK2.row hJ.a (hnf _ (by omega) (by omega))) 0 (.int .i64 (x + i + 1))
        rw [h1]
        have e : (x + ((i + 1 : Nat) : Int)) = x + i + 1 := by omega
        rw [e]
        rfl
      · exact row_far (hK2.row hJ.r (hnf _ (by omega) (by omega))) gs (fun e => by have := Option.some.inj e; omega)
      · exact row_far (hK2.row hJ.b1 (hnf _ (by omega) (by omega))) gs (fun e => by have := Option.some.inj e; omega)
      · exact row_far (hK2.row hJ.b2 (hnf _ (by omega) (by omega))) gs (fun e => by have := Option.some.inj e; omega)
      · rw [HW1.out]
        exact hD2.keeps (Keeps.one gs) (fun q hq hfq => by subst hq; exact hn2 _ (by omega) (by omega) hfq)
      · intro q hq
        rcases hv2 with h5 | h5
        · exact hv' q (h5 ▸ hq)
        · have := h5 q hq; exact .inr (by omega)
      · exact (hJ.kp.trans hK2 hnv).grown gs (fun r hr => .inr (by have := Option.some.inj hr; omega))
    | true =>
      have hC0 : Calls Try.prog 64 #[.pointer (some ⟨g, 0, none⟩), .int .i64 (x + i), .slice (some ⟨b, o + 64 * i, none⟩) m m] W fun e w' => e = .returned (.int .i64 50) ∧ ∃ v'', Dev w' B g bs bl v'' k d2 ∧ Keeps (Foot g bs bl v') W w' ∧ (v''.ownBlock = v'.ownBlock ∨ ∀ q, v''.ownBlock = some q → W.heap.size ≤ q) := by
        rw [hdn] at hC
        exact hC
      have HC0 := Lib.hid hC0
      have HDN2 := Lib.hid hdn
      clear hC hC0 hdn
      gi_wp2_with (first
        | (refine ⟨trivial, ?_⟩; gi_at_call 64; refine (CallsIn.inRound l0 (callsIn_wide.2 HC0.out)).mono ?_; rintro e W2 ⟨rfl, v2, hD2, hK2, hv2⟩
           have d1 : W2.cell? ⟨w.heap.size + 1 + 1, 0, none⟩ = some (.int .i64 0) := hK2.cell (cell_of_row W _ 0 _ _ _ HJ.out.r) (hnf _ (by omega) (by omega))
           have f1 : W2.frozen? ⟨w.heap.size + 1 + 1, 0, none⟩ = false := frozen_of_row W2 _ 0 _ _ (hK2.row HJ.out.r (hnf _ (by omega) (by omega)))))
      have gs := setCell_grows W2 (w.heap.size + 1 + 1) 0 (.int .i64 50)
      have hn2 : ∀ q, w.heap.size ≤ q → q < w.heap.size + 7 → ¬ Foot g bs bl v2 q := by
        intro q h1 h2 hfq
        rcases hfq with e | e | e | e
        · exact hnf q h1 h2 (.inl e)
        · exact hnf q h1 h2 (.inr (.inl e))
        · exact hnf q h1 h2 (.inr (.inr (.inl e)))
        · rcases hv2 with h5 | h5
          · exact hnf q h1 h2 (.inr (.inr (.inr (h5 ▸ e))))
          · have := h5 q e; omega
      have hz2 := hK2.size
      have hJ := HJ.out
      have hst := Dv.write_stays d x l (i + 1) ((n + 63) / 64) (by omega) (by rw [HW1.out]; show pw d2.down ≠ 0; rw [HDN2.out]; decide)
      refine ⟨by rw [hz0]; exact (HKR.out W2 hK2).trans (KeepsRec.grown gs (by omega) (fun r hr => by have := Option.some.inj hr; omega)), rfl, ?_, ?_, v2, ?_, ?_, ?_⟩
      · rw [hst, HW1.out]; show pw d2.down = 50; rw [HDN2.out]; rfl
      · have h1 := set_row (hK2.row hJ.r (hnf _ (by omega) (by omega))) 0 (.int .i64 50)
        exact h1
      · rw [hst, HW1.out]
        exact hD2.keeps (Keeps.one gs) (fun q hq hfq => by subst hq; exact hn2 _ (by omega) (by omega) hfq)
      · exact (hJ.kp.trans hK2 hnv).grown gs (fun r hr => .inr (by have := Option.some.inj hr; omega))
      · intro q hq
        rcases hv2 with h5 | h5
        · exact hv' q (h5 ▸ hq)
        · have := h5 q hq; exact .inr (by omega)
  case done =>
    intro W hJ hk
    obtain ⟨v', hD', hv'⟩ := hJ.dev
    have d1 : W.cell? ⟨w.heap.size + 1 + 1, 0, none⟩ = some (.int .i64 0) := cell_of_row W _ 0 _ _ _ hJ.r
    have f1 : W.frozen? ⟨w.heap.size + 1 + 1, 0, none⟩ = false := frozen_of_row W _ 0 _ _ hJ.r
    have HJ := Lib.hid hJ
    have HD' := Lib.hid hD'
    have HV' := Lib.hid hv'
    clear hJ hD' hv'
    rw [hz0] at hk ⊢
    gi_wp2
    have gs := setCell_grows W (w.heap.size + 1 + 1) 0 (.int .i64 0)
    have hr2 := set_row HJ.out.r 0 (.int .i64 0)
    have hD9 := row_far hk gs (fun e => by have := Option.some.inj e; omega)
    have hfin : Dev (W.setCell ⟨w.heap.size + 1 + 1, 0, none⟩ (.int .i64 0)) B g bs bl v' k (d.write x l ((n + 63) / 64)).1 := HD'.out.keeps (Keeps.one gs) (fun q hq hfq => by
      subst hq
      rcases hfq with e | e | e | e
      · have := hf _ (.inl e); omega
      · have := hf _ (.inr (.inl e)); omega
      · have := hf _ (.inr (.inr (.inl e))); omega
      · rcases HV'.out _ e with h5 | h5
        · have := hf _ (.inr (.inr (.inr h5))); omega
        · omega)
    have hkp := HJ.out.kp.grown gs (fun r hr => .inr (by have := Option.some.inj hr; omega))
    generalize W.setCell ⟨w.heap.size + 1 + 1, 0, none⟩ (.int .i64 0) = W9 at *
    have gd := grownBy_putObj' W9 (w.heap.size + 5) (.deferred none)
    refine ⟨by simp, .inl ⟨_, _, rfl, run_takeDeferred hD9, ?_⟩⟩
    refine ⟨_, results_cell1 (fn := Try.f38) rfl _ rfl (load_errno (cell_of_row _ _ 0 _ _ _ (row_far hr2 gd (fun e => by have := Option.some.inj e; omega)))), ?_⟩
    rw [HPP.out]
    refine ⟨by rw [HJ.out.e], v', hfin.keeps (Keeps.one gd) (fun q hq hfq => ?_), hkp.grown gd (fun r hr => .inr (by have := Option.some.inj hr; omega)), fun q hq => (HV'.out q hq).imp id (fun h => by omega)⟩
    subst hq
    rcases hfq with e | e | e | e
    · have := hf _ (.inl e); omega
    · have := hf _ (.inr (.inl e)); omega
    · have := hf _ (.inr (.inr (.inl e))); omega
    · rcases HV'.out _ e with h5 | h5
      · have := hf _ (.inr (.inr (.inr h5))); omega
      · omega
  case stop =>
    rintro cd W ⟨rfl, h1, h2, v', h4, h5, h6⟩ hk
    have HF := Lib.hid h4
    have HV' := Lib.hid h6
    have HKp := Lib.hid h5
    have H1 := Lib.hid h1
    clear h4 h5 h6 h1
    rw [hz0] at hk ⊢
    gi_wp2
    have gd := grownBy_putObj' W (w.heap.size + 5) (.deferred none)
    refine ⟨by simp, .inl ⟨_, _, rfl, run_takeDeferred hk, ?_⟩⟩
    refine ⟨_, results_cell1 (fn := Try.f38) rfl _ rfl (load_errno (cell_of_row _ _ 0 _ _ _ (row_far h2 gd (fun e => by have := Option.some.inj e; omega)))), ?_⟩
    rw [HPP.out]
    refine ⟨by rw [H1.out], v', HF.out.keeps (Keeps.one gd) (fun q hq hfq => ?_), HKp.out.grown gd (fun r hr => .inr (by have := Option.some.inj hr; omega)), fun q hq => (HV'.out q hq).imp id (fun h => by omega)⟩
    subst hq
    rcases hfq with e | e | e | e
    · have := hf _ (.inl e); omega
    · have := hf _ (.inr (.inl e)); omega
    · have := hf _ (.inr (.inr (.inl e))); omega
    · rcases HV'.out _ e with h5 | h5
      · have := hf _ (.inr (.inr (.inr h5))); omega
      · omega

end Go.Proofs.Ytddnjlnhnnpgiaa
