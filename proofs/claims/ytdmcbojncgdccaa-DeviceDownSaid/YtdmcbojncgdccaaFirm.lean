/- A sector that nobody writes stays. -/
import Derived.Test.YtdmcbojncgdccaaDoany
namespace Go.Proofs.Ytdmcbojncgdccaa
open Go.RowKit

theorem lastOf_key_ : ∀ (l : List (Int × List UInt8)) (f : Says) (x : Int) (s : List UInt8), l.foldl (fun f p => fun y => if y = p.1 then some p.2 else f y) f x = some s → (∃ p ∈ l, p.1 = x) ∨ f x = some s := by
  intro l
  induction l with
  | nil => intro f x s h; exact .inr h
  | cons p l ih =>
    intro f x s h
    rcases ih _ x s h with ⟨q, hq, e⟩ | h1
    · exact .inl ⟨q, List.mem_cons_of_mem _ hq, e⟩
    · by_cases hx : x = p.1
      · exact .inl ⟨p, List.mem_cons_self, hx.symm⟩
      · simp only [if_neg hx] at h1
        exact .inr h1
theorem lastOf_none (l : List (Int × List UInt8)) (x : Int) (h : ∀ p ∈ l, p.1 ≠ x) : lastOf l x = none := by
  cases hl : lastOf l x with
  | none => rfl
  | some s =>
    rcases lastOf_key_ l _ x s hl with ⟨p, hp, e⟩ | h1
    · exact absurd e (h p hp)
    · cases h1
/-- What is safe of a sector is S0, and no change of it waits. -/
def Calm (d : Dv) (s : Int) (S0 : List UInt8) : Prop := d.S s = S0 ∧ ∀ p ∈ d.ws, p.1 ≠ s
theorem Calm.seen {d : Dv} {s : Int} {S0 : List UInt8} (h : Calm d s S0) : d.seen s = S0 := by
  unfold Dv.seen
  rw [lastOf_none _ _ h.2]
  exact h.1
theorem Calm.write {d : Dv} {s : Int} {S0 : List UInt8} (h : Calm d s S0) (x : Int) (l : List UInt8) (j : Nat) (hx : ∀ k, k < j → x + (k : Int) ≠ s) : Calm (d.write x l j).1 s S0 := by
  induction j with
  | zero => exact h
  | succ j ih =>
    have ih := ih (fun k hk => hx k (by omega))
    rw [Dv.write]
    split
    · exact ih
    · refine ⟨ih.1, fun p hp => ?_⟩
      have hp' : p ∈ (d.write x l j).1.ws ++ [(x + (j : Int), pad (sct l j))] := hp
      rcases List.mem_append.1 hp' with h1 | h1
      · exact ih.2 p h1
      · obtain rfl := List.mem_singleton.1 h1
        exact hx j (by omega)
/-- What a call must not do. -/
def Spares (o : Opd) (s : Int) : Prop := ¬ (o.kind = 0 ∧ o.at_ ≤ s ∧ s - max o.at_ 0 < (((o.b.length : Nat) : Int) + 63) / 64)
theorem Calm.op {d : Dv} {s : Int} {S0 : List UInt8} (h : Calm d s S0) (o : Opd) (ho : Spares o s) : Calm (d.op o) s S0 := by
  unfold Dv.op
  split
  · rename_i h0
    unfold Dv.wrote
    split
    · exact h
    · split
      · rename_i hw
        unfold withinB at hw
        simp only [decide_eq_true_eq] at hw
        refine h.write _ _ _ (fun k hk e => ho ⟨h0, ?_, ?_⟩)
        · omega
        · omega
      · exact h
  · split
    · unfold Dv.flush
      split
      · exact h
      · split
        · exact h
        · exact ⟨h.seen, fun p hp => by cases hp⟩
    · split
      · exact h
      · split
        · refine ⟨?_, fun p hp => by cases hp⟩
          show (d.crash1 o.keep d.ws.length).S s = S0
          generalize d.ws.length = i
          induction i with
          | zero => exact h.1
          | succ i ih =>
            rw [Dv.crash1]
            split
            · exact ih
            · rename_i p hp
              show (if s = p.1 then _ else (d.crash1 o.keep i).S s) = S0
              rw [if_neg (fun e => h.2 p (List.mem_of_getElem? hp) e.symm)]
              exact ih
        · exact h
theorem Dv.write_n (d : Dv) (x : Int) (l : List UInt8) (j : Nat) : (d.write x l j).1.n = d.n := by
  induction j with
  | zero => rfl
  | succ j ih =>
    rw [Dv.write]
    split
    · exact ih
    · exact ih
theorem Dv.op_n (d : Dv) (o : Opd) : (d.op o).n = d.n := by
  unfold Dv.op
  split
  · unfold Dv.wrote
    split
    · rfl
    · split
      · exact Dv.write_n _ _ _ _
      · rfl
  · split
    · unfold Dv.flush
      split
      · rfl
      · split <;> rfl
    · split
      · rfl
      · split
        · exact (Dv.crash1_ws d o.keep d.ws.length).2.1
        · rfl
theorem Calm.crash {d : Dv} {s : Int} {S0 : List UInt8} (h : Calm d s S0) (ks : List Int) : Calm (d.crash ks) s S0 := by
  have := h.op ⟨4, 0, 0, none, 0, 0, [], none, 0, 0, ks⟩ (fun h => by have := h.1; simp at this)
  exact this
/-- Behind a flush that is told to be good. -/
theorem flush_calm (d : Dv) (s : Int) (h : d.flush.2 = 0) : Calm d.flush.1 s (d.flush.1.S s) ∧ d.flush.1.down = false ∧ d.flush.1.n = d.n := by
  unfold Dv.flush at h ⊢
  split at h
  · cases h
  · split at h
    · cases h
    · rename_i h1 h2
      rw [if_neg h1, if_neg h2]
      exact ⟨⟨rfl, fun p hp => by cases hp⟩, by show d.step.down = false; simpa using h2, rfl⟩

end Go.Proofs.Ytdmcbojncgdccaa
