/- A device: what is written. -/
import Derived.Test.YtdmcbojncgdccaaDevg
import Derived.Test.YtdmcbojncgdccaaChunk
namespace Go.Proofs.Ytdmcbojncgdccaa
open Go.RowKit
attribute [local go_sem] Oper.semAt_some

theorem power_ok (g : Nat) (w : World) (c4 : w.cell? ⟨g, 4, none⟩ = some (.bool false)) : Calls Try.prog 28 #[.pointer (some ⟨g, 0, none⟩)] w fun e w' => e = .returned (.int .i64 0) ∧ w = w' := power_at g false w c4
theorem results_cell1 {fn : Func} {p : Tmp} {tp : TypeId} (h : fn.results = #[.cell p tp]) (tmps : Array Value) {P : Program} {w : World} {a : Addr} {u : Value} (hp : tmps.getD p undef = .pointer (some a)) (h1 : (loadVar tp a).run P w = .ok u w) : (results fn tmps).run P w = .ok u w := by
  have hp' : tmps[p]?.getD undef = .pointer (some a) := by simpa using hp
  simp [results, h, hp', asAddr, Sem.run_bind, h1, Result.andThen]
theorem load_errno {w : World} {b : Nat} {E : Int} (h : w.cell? ⟨b, 0, none⟩ = some (.int .i64 E)) : (loadVar 35 ⟨b, 0, none⟩).run Try.prog w = .ok (.int .i64 E) w := by
  go_simp
theorem Rd.stay {w w' : World} {B sz n c : Nat} {A : Option Addr} {xs : List Value} (h : Rd w B sz A n c xs) (k : ∀ b o, A = some ⟨b, o, none⟩ → w'.heap[b]? = w.heap[b]?) : Rd w' B sz A n c xs := by
  obtain ⟨h1, h2, h3, h4⟩ := h
  refine ⟨h1, h2, h3, fun hn => ?_⟩
  obtain ⟨b, o, hA, hb, hc⟩ := h4 hn
  exact ⟨b, o, hA, hb, fun j u hu => (World.cell?_of_block (a := ⟨b, o + j, none⟩) (k b o hA)).trans (hc j u hu)⟩
theorem Rd.stayn {w w' : World} {B sz n c : Nat} {A : Option Addr} {xs : List Value} (h : Rd w B sz A n c xs) (k : 0 < n → ∀ b o, A = some ⟨b, o, none⟩ → b < B → w'.heap[b]? = w.heap[b]?) : Rd w' B sz A n c xs := by
  obtain ⟨h1, h2, h3, h4⟩ := h
  refine ⟨h1, h2, h3, fun hn => ?_⟩
  obtain ⟨b, o, hA, hb, hc⟩ := h4 hn
  exact ⟨b, o, hA, hb, fun j u hu => (World.cell?_of_block (a := ⟨b, o + j, none⟩) (k hn b o hA hb)).trans (hc j u hu)⟩
theorem write_nil (x : Int) (A : Option Addr) (n c : Nat) (w : World) : Calls Try.prog 16 #[.pointer none, .int .i64 x, .slice A n c] w fun e w' => e = .returned (.int .i64 1) ∧ Below w.heap.size w w' := by
  go_enter Try.func16, Try.ntmps16
  go_wp2_with (first
    | (go_at_call 28; refine (power_nil _).mono ?_; rintro e w1 ⟨rfl, rfl⟩)
    | fail)
  obtain ⟨W, hW, hz, hr0, hr1, hr2, hb⟩ := boxes3 w #[.pointer none] #[.int .i64 x] #[.int .i64 1] 26 3 35
  rw [← hW]
  exact bodyPost_ret (results_cell1 rfl _ rfl (load_errno (cell_of_row _ _ 0 _ _ _ hr2))) rfl ⟨rfl, hb⟩
theorem write_down (g : Nat) (x : Int) (A : Option Addr) (n c : Nat) (w : World) (c4 : w.cell? ⟨g, 4, none⟩ = some (.bool true)) : Calls Try.prog 16 #[.pointer (some ⟨g, 0, none⟩), .int .i64 x, .slice A n c] w fun e w' => e = .returned (.int .i64 50) ∧ Below w.heap.size w w' := by
  have hgl := block_lt_of_cell c4
  have hp : ∀ (W : World), W.cell? ⟨g, 4, none⟩ = some (.bool true) → Calls Try.prog 28 #[.pointer (some ⟨g, 0, none⟩)] W fun e w' => e = .returned (.int .i64 50) ∧ W = w' := fun W c => power_at g true W c
  obtain ⟨W0, hW0, hz0, s0, s1, s2, hb0⟩ := boxes3 w #[.pointer (some ⟨g, 0, none⟩)] #[.int .i64 x] #[.int .i64 0] 26 3 35
  have d4 := (hb0.cell (p := ⟨g, 4, none⟩) hgl).trans c4
  rw [hW0] at d4
  have HD4 := Lib.hid d4
  have HPP := Lib.hid hp
  clear d4 hp hW0 hz0 s0 s1 s2 hb0
  go_enter Try.func16, Try.ntmps16
  go_wp2_with (first
    | (go_at_call 28; refine (HPP.out _ HD4.out).mono ?_; rintro e w1 ⟨rfl, rfl⟩)
    | fail)
  obtain ⟨W, hW, hz, hr0, hr1, hr2, hb⟩ := boxes3 w #[.pointer (some ⟨g, 0, none⟩)] #[.int .i64 x] #[.int .i64 50] 26 3 35
  rw [← hW]
  exact bodyPost_ret (results_cell1 rfl _ rfl (load_errno (cell_of_row _ _ 0 _ _ _ hr2))) rfl ⟨rfl, hb⟩
theorem chunk_any2 (A : Option Addr) (n c : Nat) (w : World) :
    Calls Try.prog 35 #[.slice A n c, .int .i64 64] w fun e w' => e = .returned (.func (.func 47) #[] #[.pointer (some ⟨w.heap.size, 0, none⟩), .pointer (some ⟨w.heap.size + 1, 0, none⟩)]) ∧
      w'.heap[w.heap.size]? = some (.cells #[.slice A n c] 31 (0, 0)) ∧ w'.heap[w.heap.size + 1]? = some (.cells #[.int .i64 64] 3 (0, 0)) ∧ w'.heap.size = w.heap.size + 2 ∧ Below w.heap.size w w' := by
  go_enter Try.func35, Try.ntmps35
  go_wp2
  obtain ⟨W0, hW0, hz0, hr0, hr1, hb0⟩ := boxes2 w #[.slice A n c] #[.int .i64 64] 31 3
  rw [← hW0]
  go_ret
  exact ⟨rfl, hr0, hr1, hz0, hb0⟩

/-- A sector of a text. -/
def sct (l : List UInt8) (i : Nat) : List UInt8 := (l.drop (64 * i)).take 64
def Dv.write (d : Dv) (x : Int) (l : List UInt8) : Nat → Dv × Int
  | 0 => (d, 0)
  | k + 1 => if (d.write x l k).2 ≠ 0 then d.write x l k else (((d.write x l k).1.chg (x + k, pad (sct l k))).step, pw ((d.write x l k).1.chg (x + k, pad (sct l k))).step.down)

theorem Dv.write_pw (d : Dv) (x : Int) (l : List UInt8) (j : Nat) : (d.write x l j).2 = 0 ∨ (d.write x l j).2 = 50 := by
  induction j with
  | zero => exact .inl rfl
  | succ j ih =>
    rw [Dv.write]
    split
    · exact ih
    · unfold pw; simp only; split
      · exact .inr rfl
      · exact .inl rfl
theorem Dv.write_stays (d : Dv) (x : Int) (l : List UInt8) (j k : Nat) (h : j ≤ k) (he : (d.write x l j).2 ≠ 0) : d.write x l k = d.write x l j := by
  induction k with
  | zero => obtain rfl : j = 0 := by omega
            rfl
  | succ k ih =>
    rcases Nat.lt_or_ge j (k + 1) with h1 | h1
    · have := ih (by omega)
      rw [Dv.write, if_pos (by rw [this]; exact he), this]
    · obtain rfl : j = k + 1 := by omega
      rfl
theorem Dv.write_good (d : Dv) (x : Int) (l : List UInt8) (j : Nat) (he : (d.write x l j).2 = 0) : (d.write x l j).1.done = d.done + j ∧ (d.write x l j).1.ws.length = d.ws.length + j ∧ (d.write x l j).1.n = d.n ∧ (d.down = false → (d.write x l j).1.down = false) := by
  induction j with
  | zero => exact ⟨rfl, rfl, rfl, fun h => h⟩
  | succ j ih =>
    rw [Dv.write] at he ⊢
    by_cases h0 : (d.write x l j).2 ≠ 0
    · rw [if_pos h0] at he
      exact absurd he h0
    · rw [if_neg h0] at he ⊢
      obtain ⟨h1, h2, h3, _⟩ := ih (Decidable.not_not.1 h0)
      refine ⟨?_, ?_, h3, fun _ => ?_⟩
      · show (d.write x l j).1.done + 1 = _; omega
      · show ((d.write x l j).1.ws ++ [_]).length = _
        rw [List.length_append, h2]; simp; omega
      · simp only at he ⊢
        unfold pw at he
        split at he
        · cases he
        · rename_i hh; simpa using hh

/-- Between two rounds. -/
structure WJ (w : World) (B g bs bl k : Nat) (v : Value) (d : Dv) (x : Int) (A : Option Addr) (n c : Nat) (l : List UInt8) (j : Nat) (W : World) : Prop where
  e : (d.write x l j).2 = 0
  p : W.heap[w.heap.size]? = some (.cells #[.pointer (some ⟨g, 0, none⟩)] 26 (0, 0))
  a : W.heap[w.heap.size + 1]? = some (.cells #[.int .i64 (x + j)] 3 (0, 0))
  r : W.heap[w.heap.size + 2]? = some (.cells #[.int .i64 0] 35 (0, 0))
  b1 : W.heap[w.heap.size + 3]? = some (.cells #[.slice A n c] 31 (0, 0))
  b2 : W.heap[w.heap.size + 4]? = some (.cells #[.int .i64 64] 3 (0, 0))
  dev : ∃ v', Dev W B g bs bl v' k (d.write x l j).1 ∧ ∀ q, v'.ownBlock = some q → v.ownBlock = some q ∨ w.heap.size + 7 ≤ q
  kp : Keeps (Foot g bs bl v) w W
section
variable {w W W' : World} {B g bs bl k : Nat} {v : Value} {d : Dv} {x : Int} {A : Option Addr} {n c : Nat} {l : List UInt8} {j : Nat}
theorem WJ.step (h : WJ w B g bs bl k v d x A n c l j W) (hf : ∀ i, Foot g bs bl v i → i < w.heap.size) {row : Option Nat} (hg : W.grownBy W' row) (hr : ∀ r, row = some r → w.heap.size + 5 ≤ r ∧ (r < w.heap.size + 7 ∨ W.heap.size ≤ r)) : WJ w B g bs bl k v d x A n c l j W' := by
  have far : ∀ b, b < w.heap.size + 5 → some b ≠ row := fun b hb e => by have := hr b e.symm; omega
  obtain ⟨v', h1, h2⟩ := h.dev
  refine ⟨h.e, row_far h.p hg (far _ (by omega)), row_far h.a hg (far _ (by omega)), row_far h.r hg (far _ (by omega)), row_far h.b1 hg (far _ (by omega)), row_far h.b2 hg (far _ (by omega)), ⟨v', ?_, h2⟩, h.kp.grown hg (fun r e => .inr (by have := hr r e; omega))⟩
  refine h1.keeps (F := fun i => some i = row) ((Keeps.refl _ _).grown hg (fun r e => .inl e.symm)) (fun i hi hfi => ?_)
  have h3 := hr i hi.symm
  have h4 := (h1.foot_lt hfi).2
  rcases hfi with e | e | e | e
  · have := hf i (.inl e); omega
  · have := hf i (.inr (.inl e)); omega
  · have := hf i (.inr (.inr (.inl e))); omega
  · rcases h2 i e with h5 | h5
    · have := hf i (.inr (.inr (.inr h5))); omega
    · omega
theorem WJ.below (h : WJ w B g bs bl k v d x A n c l j W) (hf : ∀ i, Foot g bs bl v i → i < w.heap.size) (hb : Below W.heap.size W W') : WJ w B g bs bl k v d x A n c l j W' :=
  h.step hf (below_grown hb none) (fun r e => by cases e)
theorem WJ.drewN (h : WJ w B g bs bl k v d x A n c l j W) (hf : ∀ i, Foot g bs bl v i → i < w.heap.size) (m : Nat) : WJ w B g bs bl k v d x A n c l j (W.drewN m) :=
  h.below hf ⟨rfl, rfl, rfl, Nat.le_refl _, fun _ _ => rfl⟩
theorem WJ.robust (hf : ∀ i, Foot g bs bl v i → i < w.heap.size) : Robust (w.heap.size + 5) (WJ w B g bs bl k v d x A n c l j) := fun W r o h hr hlt =>
  h.step hf (grownBy_putObj' W r o) (fun q e => by have := Option.some.inj e; omega)
end
end Go.Proofs.Ytdmcbojncgdccaa
