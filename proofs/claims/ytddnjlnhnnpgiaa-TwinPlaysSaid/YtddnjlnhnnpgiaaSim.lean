/- A device and the reference's, that stand alike: what each call makes of both. -/
import Derived.Test.YtddnjlnhnnpgiaaDocZ
namespace Go.Proofs.Ytddnjlnhnnpgiaa
set_option maxRecDepth 20000
open Go.RowKit

/-- They stand alike. -/
structure Sim (d : Dv) (r : Rv) : Prop where
  n : d.n = r.n
  down : d.down = r.down
  fuse : (d.fuse : Int) = r.fuse + 1
  ws : d.ws = r.loose
  S : ∀ x, d.S x = r.safeOf x
section
variable {d : Dv} {r : Rv}
theorem sim_new (n : Nat) : Sim (Dv.new n) (Rv.new n) := ⟨rfl, rfl, rfl, rfl, fun _ => rfl⟩
theorem Sim.seen (h : Sim d r) (x : Int) : d.seen x = r.sector x := by
  unfold Dv.seen Rv.sector
  rw [h.ws, h.S]
theorem Sim.bytes (h : Sim d r) (x : Int) (m : Nat) : d.bytes x m = r.bytes x m := by
  induction m with
  | zero => rfl
  | succ m ih => rw [Dv.bytes, Rv.bytes, ih, h.seen]
theorem Sim.step (h : Sim d r) (hd : d.down = false) : Sim d.step r.blow := by
  have hf := h.fuse
  have hr : r.down = false := by rw [← h.down]; exact hd
  refine ⟨h.n, ?_, ?_, h.ws, h.S⟩
  · show (if d.fuse = 0 then d.down else decide (d.fuse = 1)) = (r.down || decide (r.fuse = 0))
    rw [hd, hr, Bool.false_or]
    split
    · have : ¬ r.fuse = 0 := by omega
      simp [this]
    · by_cases h1 : d.fuse = 1
      · have : r.fuse = 0 := by omega
        simp [h1, this]
      · have : ¬ r.fuse = 0 := by omega
        simp [h1, this]
  · show ((d.fuse - 1 : Nat) : Int) = (if 0 ≤ r.fuse then r.fuse - 1 else r.fuse) + 1
    split
    · omega
    · have h0 := h.fuse
      omega
theorem Sim.chg (h : Sim d r) (p : Int × List UInt8) : Sim (d.chg p) (r.chg p) := by
  refine ⟨h.n, h.down, h.fuse, ?_, h.S⟩
  show d.ws ++ [p] = r.loose ++ [p]
  rw [h.ws]
theorem Sim.write (h : Sim d r) (hd : d.down = false) (x : Int) (l : List UInt8) (j : Nat) : Sim (d.write x l j).1 (r.write x l j).1 ∧ (d.write x l j).2 = (r.write x l j).2 ∧ ((d.write x l j).2 = 0 → (d.write x l j).1.down = false) := by
  induction j with
  | zero => exact ⟨h, rfl, fun _ => hd⟩
  | succ j ih =>
    obtain ⟨h1, h2, h3⟩ := ih
    rw [Dv.write, Rv.write]
    by_cases h0 : (d.write x l j).2 ≠ 0
    · rw [if_pos h0, if_pos (by rw [← h2]; exact h0)]
      exact ⟨h1, h2, fun he => absurd he h0⟩
    · rw [if_neg h0, if_neg (by rw [← h2]; exact h0)]
      have hdn := h3 (Decidable.not_not.1 h0)
      have hs := (h1.chg (x + j, pad (sct l j))).step hdn
      refine ⟨hs, by dsimp only; rw [hs.down], fun he => ?_⟩
      dsimp only at he
      unfold pw at he
      split at he
      · cases he
      · rename_i hh
        exact Bool.not_eq_true _ ▸ hh
theorem lastOf_filter (l : List (Int × List UInt8)) (x y : Int) (hy : y ≠ x) : lastOf (l.filter (fun p => decide (p.1 ≠ x))) y = lastOf l y := by
  have key : ∀ (l : List (Int × List UInt8)) (f g : Says), f y = g y → (l.filter (fun p => decide (p.1 ≠ x))).foldl (fun f p => fun y => if y = p.1 then some p.2 else f y) f y = l.foldl (fun f p => fun y => if y = p.1 then some p.2 else f y) g y := by
    intro l
    induction l with
    | nil => intro f g h; exact h
    | cons p l ih =>
      intro f g h
      by_cases hp : p.1 = x
      · rw [List.filter_cons_of_neg (by simp [hp])]
        refine ih f _ ?_
        show f y = if y = p.1 then some p.2 else g y
        rw [if_neg (by rw [hp]; exact hy)]
        exact h
      · rw [List.filter_cons_of_pos (by simp [hp])]
        refine ih _ _ ?_
        show (if y = p.1 then some p.2 else f y) = if y = p.1 then some p.2 else g y
        rw [h]
  exact key l _ _ rfl
theorem safe_put (r : Rv) (x : Int) (s : List UInt8) (y : Int) : (r.put x s).safeOf y = if y = x then s else r.safeOf y := by
  unfold Rv.safeOf
  show (lastOf (r.kept x ++ [(x, s)]) y).getD Z = _
  rw [lastOf_snoc]
  by_cases h : y = x
  · rw [if_pos h]
    show ((if y = x then some s else _) : Option (List UInt8)).getD Z = s
    rw [if_pos h]; rfl
  · rw [if_neg h]
    show ((if y = x then some s else lastOf (r.kept x) y) : Option (List UInt8)).getD Z = _
    rw [if_neg h, Rv.kept, lastOf_filter _ _ _ h]
theorem safe_puts (l : List (Int × List UInt8)) (r : Rv) (y : Int) : (r.puts l).safeOf y = (lastOf l y).getD (r.safeOf y) := by
  have key : ∀ (l : List (Int × List UInt8)) (r : Rv) (f : Says) (r0 : List UInt8), (f y).getD r0 = r.safeOf y → (l.foldl (fun f p => fun y => if y = p.1 then some p.2 else f y) f y).getD r0 = (r.puts l).safeOf y := by
    intro l
    induction l with
    | nil => intro r f r0 h; exact h
    | cons p l ih =>
      intro r f r0 h
      refine ih (r.put p.1 p.2) _ r0 ?_
      rw [safe_put]
      by_cases hy : y = p.1
      · rw [if_pos hy]
        show ((if y = p.1 then some p.2 else f y) : Option (List UInt8)).getD r0 = p.2
        rw [if_pos hy]; rfl
      · rw [if_neg hy]
        show ((if y = p.1 then some p.2 else f y) : Option (List UInt8)).getD r0 = _
        rw [if_neg hy]; exact h
  exact (key l r (fun _ => none) (r.safeOf y) rfl).symm
theorem Sim.flush (h : Sim d r) : Sim d.flush.1 r.flush.1 ∧ d.flush.2 = r.flush.2 := by
  unfold Dv.flush Rv.flush
  cases hd : d.down with
  | true =>
    have hr : r.down = true := by rw [← h.down]; exact hd
    rw [if_pos rfl, if_pos hr]
    exact ⟨h, rfl⟩
  | false =>
    have hr : ¬ r.down = true := by rw [← h.down, hd]; decide
    have hs := h.step hd
    rw [if_neg (by decide), if_neg hr]
    cases h1 : d.step.down with
    | true =>
      rw [if_pos rfl, if_pos (by rw [← hs.down]; exact h1)]
      exact ⟨hs, rfl⟩
    | false =>
      rw [if_neg (by decide), if_neg (by rw [← hs.down, h1]; decide)]
      have hp := Rv.puts_rest r.loose r.blow
      refine ⟨⟨?_, ?_, ?_, rfl, fun x => ?_⟩, rfl⟩
      · show d.n = (r.blow.puts r.loose).n
        rw [hp.2.1]; exact h.n
      · show d.step.down = (r.blow.puts r.loose).down
        rw [hp.2.2.1]; exact hs.down
      · show ((d.step.fuse : Nat) : Int) = (r.blow.puts r.loose).fuse + 1
        rw [hp.2.2.2.1]; exact hs.fuse
      · show (lastOf d.ws x).getD (d.S x) = (r.blow.puts r.loose).safeOf x
        rw [safe_puts, h.ws, h.S]; rfl
theorem Sim.fused (h : Sim d r) (n : Int) : Sim (d.fused n) { r with fuse := max n (-1) } := by
  refine ⟨h.n, h.down, ?_, h.ws, h.S⟩
  show (((if n < 0 then 0 else n.toNat + 1) : Nat) : Int) = max n (-1) + 1
  split <;> omega
theorem Sim.crash1 (h : Sim d r) (ks : List Int) (i : Nat) : ∀ x, (d.crash1 ks i).S x = (r.crash1 ks i).safeOf x := by
  induction i with
  | zero => exact h.S
  | succ i ih =>
    intro x
    rw [Dv.crash1, Rv.crash1, h.ws]
    cases hp : r.loose[i]? with
    | none => exact ih x
    | some p =>
      show (if x = p.1 then _ else (d.crash1 ks i).S x) = ((r.crash1 ks i).put p.1 _).safeOf x
      rw [safe_put, ih x, ih p.1]
theorem Sim.crash (h : Sim d r) (ks : List Int) : Sim (d.crash ks) (r.crash ks) := by
  refine ⟨?_, rfl, rfl, rfl, fun x => ?_⟩
  · show (d.crash1 ks d.ws.length).n = (r.crash1 ks r.loose.length).n
    rw [(Dv.crash1_ws d ks _).2.1, (Rv.crash1_rest r ks _).2.1, h.n]
  · show (d.crash1 ks d.ws.length).S x = (r.crash1 ks r.loose.length).safeOf x
    rw [h.ws]
    exact h.crash1 ks _ x
end
end Go.Proofs.Ytddnjlnhnnpgiaa
