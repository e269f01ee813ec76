/- Contracts of package alloc: Take, Some. -/
import Derived.Test.YtljmigfjlndpbaaDoorAfree
namespace Go.Proofs.YtljmigfjlndpbaaDoor
open Go.RowKit

def Av.first (a : Av) : Option Nat := (List.range a.n).find? (bitAt a.ws)
theorem first_is {a : Av} {k : Nat} (h : a.Ok k) : FirstIs a.ws a.first := by
  unfold Av.first
  cases hf : (List.range a.n).find? (bitAt a.ws) with
  | none =>
    intro j
    by_cases hj : j < a.n
    · have := List.find?_eq_none.1 hf j (List.mem_range.2 hj)
      simpa using this
    · exact h.out j (by omega)
  | some j =>
    obtain ⟨h1, _, h3⟩ := List.find?_range_eq_some.1 hf
    exact ⟨h1, fun i hi => by simpa using h3 i hi⟩
def Av.take (a : Av) : (Int × Int) × Av := match a.first with
  | none => ((0, 31), a)
  | some j => (((j : Int), 0), a.flip j)
def Av.some : Nat → Av → List Int × Av
  | 0, a => ([], a)
  | m + 1, a => ((Av.some m a).1 ++ [(Av.some m a).2.take.1.1], (Av.some m a).2.take.2)
theorem Av.some_len (m : Nat) (a : Av) : (Av.some m a).1.length = m := by
  induction m with
  | zero => rfl
  | succ m ih => rw [Av.some, List.length_append, ih]; rfl
theorem Av.take_n (a : Av) : a.take.2.n = a.n := by
  unfold Av.take
  cases a.first <;> rfl
theorem Av.some_n (m : Nat) (a : Av) : (Av.some m a).2.n = a.n := by
  induction m with
  | zero => rfl
  | succ m ih => rw [Av.some, Av.take_n, ih]
theorem Av.take_ok {a : Av} {k : Nat} (h : a.Ok k) : a.take.2.Ok k := by
  have hf := first_is h
  unfold Av.take
  cases hj : a.first with
  | none => exact h
  | some j => rw [hj] at hf; exact h.flip (first_lt h hf)
theorem Av.some_ok {a : Av} {k : Nat} (h : a.Ok k) (m : Nat) : (Av.some m a).2.Ok k := by
  induction m with
  | zero => exact h
  | succ m ih => exact Av.take_ok ih

section
variable {w w' : World} {g R k : Nat} {a : Av}
theorem grown_of_below {b : Nat} (h : Below w.heap.size w w') : w.grownBy w' (some b) := below_grown h _
/-- What Take does. -/
def Took (w : World) (g R k : Nat) (a : Av) (e : Ending) (w' : World) : Prop := e = .returned (.tuple #[.int .i64 a.take.1.1, .int .i64 a.take.1.2]) ∧ Alw w' g R k a.take.2 ∧ w.grownBy w' (some R)
theorem atake_any (h : Alw w g R k a) (hT : Tab w) :
    Calls Tryd.prog 9 #[.pointer (some ⟨g, 0, none⟩)] w (Took w g R k a) := by
  have hf := first_is h.ok
  unfold Took Av.take
  cases hj : a.first with
  | none =>
    rw [hj] at hf
    have HC := Lib.hid (first_none h hf)
    have HH := Lib.hid h
    clear h hf hj hT
    dsimp only
    go_enter Tryd.func9, Tryd.ntmps9
    go_wp2_with (first
      | (go_at_call 25; refine HC.out.mono ?_; rintro e w1 ⟨rfl, rfl⟩)
      | fail)
    go_ret2
    exact ⟨rfl, HH.out, grown_refl _ _⟩
  | some j =>
    rw [hj] at hf
    have HC := Lib.hid (first_some h hT hf)
    have HT := Lib.hid (fun (W : World) (hb : Below w.heap.size w W) => turn_any (h.below hb) j (first_lt h.ok hf))
    clear h hf hj hT
    dsimp only
    go_enter Tryd.func9, Tryd.ntmps9
    go_wp2_with (first
      | (go_at_call 25; refine HC.out.mono ?_; rintro e w1 ⟨rfl, hb1⟩)
      | (go_at_call 24; refine (HT.out _ hb1).mono ?_; rintro e w2 ⟨rfl, hA2, hg2⟩)
      | fail)
    go_ret2
    exact ⟨rfl, hA2, grown_below hb1 hg2 (fun _ _ => .inr trivial)⟩

def is (l : List Int) : List Value := l.map (.int .i64)
theorem is_len (l : List Int) : (is l).length = l.length := by unfold is; rw [List.length_map]
theorem below_of_grown {row : Option Nat} (h : w.grownBy w' row) (hr : ∀ q, row = some q → w.heap.size ≤ q) : Below w.heap.size w w' :=
  ⟨h.os, h.tape, h.output, h.size, fun i hi => h.block i hi (fun e => by have := hr i e.symm; omega)⟩
theorem Alw.far (h : Alw w g R k a) {L : Nat} (hg : w.grownBy w' (some L)) (h1 : L ≠ g) (h2 : L ≠ R) : Alw w' g R k a :=
  ⟨row_far h.row hg (fun e => h1 (by injection e with e; exact e.symm)), row_far h.rows hg (fun e => h2 (by injection e with e; exact e.symm)), h.ne, h.ok, h.pos⟩
theorem ownsRow_row {base n sz : Nat} {e : TypeId} {L : Nat} {xs : List Value} (h : w.ownsRow base e sz (.slice (some ⟨L, 0, none⟩) n n) n xs) : w.heap[L]? = some (.cells xs.toArray e (0, 0)) ∧ base ≤ L := by
  obtain ⟨hx, ⟨hv, _⟩ | ⟨q, cap, cur, hv, hbg, hq, hnc, hcm, hcs, htake⟩⟩ := h
  · cases hv
  · cases hv
    have e1 : cur.toList = xs := by rw [← htake, List.take_of_length_le (by simp; omega)]
    rw [hq, ← e1]
    exact ⟨by simp, hbg⟩
theorem Tab.grown (h : Tab w) {L : Nat} (hg : w.grownBy w' (some L)) (hL : 0 < L) : Tab w' := by
  refine ⟨Nat.lt_of_lt_of_le h.1 hg.size, fun j hj => ?_⟩
  have e : w'.heap[0]? = w.heap[0]? := hg.block 0 h.1 (by intro e; injection e with e; omega)
  have := h.2 j hj
  rw [World.cell?, e]
  exact this
theorem int_elem : Elem Tryd.prog 36 3 (.int .i64 0) 1 8 := Elem.mk_ Tryd.underlying36 (by kernel_rfl) rfl (by decide)
end
end Go.Proofs.YtljmigfjlndpbaaDoor
