/- Where of two or three operations that make memory any may come first: a tree. -/
import Derived.Test.YtijkagfppeeegaaDoorSegs
namespace Go.Proofs.YtijkagfppeeegaaDoor
open Go.RowKit

inductive Tri where
  | fin (last : List Nat)
  | one (is : List Nat) (i : Nat) (k : Tri)
  | two (is : List Nat) (i j : Nat) (k l : Tri)
  | three (is : List Nat) (i j h : Nat) (k l m : Tri)
def Tri.ok (md : Region.Mode) (ops : Array Oper) : Tri → Array Bool → Bool
  | .fin last, listed => runOk md ops last listed && (Region.ready md ops (marked listed last) == [])
  | .one is i k, listed => runOk md ops is listed && ((Region.ready md ops (marked listed is) == [i]) && k.ok md ops ((marked listed is).setIfInBounds i true))
  | .two is i j k l, listed => runOk md ops is listed && ((Region.ready md ops (marked listed is) == [i, j]) && (k.ok md ops ((marked listed is).setIfInBounds i true) && l.ok md ops ((marked listed is).setIfInBounds j true)))
  | .three is i j h k l m, listed => runOk md ops is listed && ((Region.ready md ops (marked listed is) == [i, j, h]) && (k.ok md ops ((marked listed is).setIfInBounds i true) && (l.ok md ops ((marked listed is).setIfInBounds j true) && m.ok md ops ((marked listed is).setIfInBounds h true))))
def Tri.steps : Tri → Nat
  | .fin last => last.length
  | .one is _ k => is.length + (k.steps + 1)
  | .two is _ _ k l => is.length + (max k.steps l.steps + 1)
  | .three is _ _ _ k l m => is.length + (max k.steps (max l.steps m.steps) + 1)
def wpTri (P : Program) (ops : Array Oper) (Q : Exit → Act → World → Prop) (S : World → Prop) : Tri → Act → World → Prop
  | .fin last, a, w => ∀ f : World → World, (∀ z, S (f z)) → wpQuiet P ops (fun w' => ∃ z, w' = f z) (fun a' => Q .normal a' w) (pickI ops last) a
  | .one is i k, a, w => ∀ f : World → World, (∀ z, S (f z)) → wpQuiet P ops (fun w' => ∃ z, w' = f z) (fun a' => wpOp P ops Q i (fun a'' w'' => S w'' ∧ wpTri P ops Q S k a'' w'') a' w) (pickI ops is) a
  | .two is i j k l, a, w => ∀ f : World → World, (∀ z, S (f z)) → wpQuiet P ops (fun w' => ∃ z, w' = f z)
      (fun a' => wpOp P ops Q i (fun a'' w'' => S w'' ∧ wpTri P ops Q S k a'' w'') a' w ∧ wpOp P ops Q j (fun a'' w'' => S w'' ∧ wpTri P ops Q S l a'' w'') a' w) (pickI ops is) a
  | .three is i j h k l m, a, w => ∀ f : World → World, (∀ z, S (f z)) → wpQuiet P ops (fun w' => ∃ z, w' = f z)
      (fun a' => wpOp P ops Q i (fun a'' w'' => S w'' ∧ wpTri P ops Q S k a'' w'') a' w ∧ wpOp P ops Q j (fun a'' w'' => S w'' ∧ wpTri P ops Q S l a'' w'') a' w ∧ wpOp P ops Q h (fun a'' w'' => S w'' ∧ wpTri P ops Q S m a'' w'') a' w) (pickI ops is) a

section
variable {P : Program} {ops : Array Oper} {Q : Exit → Act → World → Prop} {md : Region.Mode}
theorem tri_sound {S : World → Prop} (hs : Region.noSelect ops = true) (hQ : ∀ (d : Option Tmp) v c a w, Q (.panic c) (a.put d v) w → Q (.panic c) a w) :
    ∀ (t : Tri) (fuel : Nat) (listed : Array Bool) (a : Act) (w : World), t.ok md ops listed = true → t.steps ≤ fuel → S w → wpTri P ops Q S t a w → wpAnyH P md ops Q S fuel listed a w := by
  intro t
  induction t with
  | fin last =>
    intro fuel listed a w hok hf hS h
    simp only [Tri.ok, Bool.and_eq_true, beq_iff_eq] at hok
    classical
    have h1 := h (fun z => if S z then z else w) (fun z => by by_cases hz : S z <;> simp [hz, hS])
    obtain ⟨k, rfl⟩ : ∃ k, fuel = k + last.length := ⟨fuel - last.length, by simp only [Tri.steps] at hf; omega⟩
    exact take_run hs hQ hS (fun x hx => ⟨x, by simp [hx]⟩) last k listed a hok.1 h1 fun a' ha' => wpAnyH_done hok.2 ha' k
  | one is i k ih =>
    intro fuel listed a w hok hf hS h
    simp only [Tri.ok, Bool.and_eq_true, beq_iff_eq] at hok
    obtain ⟨h1, h2, h3⟩ := hok
    classical
    have hq := h (fun z => if S z then z else w) (fun z => by by_cases hz : S z <;> simp [hz, hS])
    simp only [Tri.steps] at hf
    obtain ⟨m, rfl⟩ : ∃ m, fuel = (m + 1) + is.length := ⟨fuel - is.length - 1, by omega⟩
    refine take_run hs hQ hS (fun x hx => ⟨x, by simp [hx]⟩) is (m + 1) listed a h1 hq fun a' ha' => ?_
    refine wpAnyH_all h2 (by simp) fun j hj => ?_
    obtain rfl : j = i := by simpa using hj
    exact wpOp_mono (fun a'' w'' hh => ⟨hh.1, ih m _ a'' w'' h3 (by omega) hh.1 hh.2⟩) ha'
  | two is i j k l ihk ihl =>
    intro fuel listed a w hok hf hS h
    simp only [Tri.ok, Bool.and_eq_true, beq_iff_eq] at hok
    obtain ⟨h1, h2, h3, h4⟩ := hok
    classical
    have hq := h (fun z => if S z then z else w) (fun z => by by_cases hz : S z <;> simp [hz, hS])
    simp only [Tri.steps] at hf
    obtain ⟨m, rfl⟩ : ∃ m, fuel = (m + 1) + is.length := ⟨fuel - is.length - 1, by omega⟩
    refine take_run hs hQ hS (fun x hx => ⟨x, by simp [hx]⟩) is (m + 1) listed a h1 hq fun a' ha' => ?_
    refine wpAnyH_all h2 (by simp) fun n hn => ?_
    have hn' : n = i ∨ n = j := by simpa using hn
    rcases hn' with rfl | rfl
    · exact wpOp_mono (fun a'' w'' hh => ⟨hh.1, ihk m _ a'' w'' h3 (by omega) hh.1 hh.2⟩) ha'.1
    · exact wpOp_mono (fun a'' w'' hh => ⟨hh.1, ihl m _ a'' w'' h4 (by omega) hh.1 hh.2⟩) ha'.2
  | three is i j h k l m ihk ihl ihm =>
    intro fuel listed a w hok hf hS hw
    simp only [Tri.ok, Bool.and_eq_true, beq_iff_eq] at hok
    obtain ⟨h1, h2, h3, h4, h5⟩ := hok
    classical
    have hq := hw (fun z => if S z then z else w) (fun z => by by_cases hz : S z <;> simp [hz, hS])
    simp only [Tri.steps] at hf
    obtain ⟨n, rfl⟩ : ∃ n, fuel = (n + 1) + is.length := ⟨fuel - is.length - 1, by omega⟩
    refine take_run hs hQ hS (fun x hx => ⟨x, by simp [hx]⟩) is (n + 1) listed a h1 hq fun a' ha' => ?_
    refine wpAnyH_all h2 (by simp) fun y hy => ?_
    have hy' : y = i ∨ y = j ∨ y = h := by simpa using hy
    rcases hy' with rfl | rfl | rfl
    · exact wpOp_mono (fun a'' w'' hh => ⟨hh.1, ihk n _ a'' w'' h3 (by omega) hh.1 hh.2⟩) ha'.1
    · exact wpOp_mono (fun a'' w'' hh => ⟨hh.1, ihl n _ a'' w'' h4 (by omega) hh.1 hh.2⟩) ha'.2.1
    · exact wpOp_mono (fun a'' w'' hh => ⟨hh.1, ihm n _ a'' w'' h5 (by omega) hh.1 hh.2⟩) ha'.2.2

/-- The whole region, all below a block N staying as it is. -/
theorem wp_tri {Q : Exit → Act → World → Prop} {id : Nat} {l : List Oper} {a : Act} {w : World} (N : Nat) (t : Tri) (hm : P.follows .mixedOrders = true)
    (hok : (Region.noSelect l.toArray && (t.ok .any l.toArray (Array.replicate l.toArray.size false) && decide (t.steps ≤ l.toArray.size))) = true)
    (hQ : ∀ (d : Option Tmp) v c a w, Q (.panic c) (a.put d v) w → Q (.panic c) a w) (h : ∀ wd, Below w.heap.size w wd → wpTri P l.toArray Q (fun x => Below N w x) t a wd) : (Code.region id l.toArray true).wp P Q a w := by
  simp only [Bool.and_eq_true, decide_eq_true_eq] at hok
  exact wp_region_held hm (tri_sound hok.1 hQ t _ _ a _ hok.2.1 hok.2.2 (Below.refl _ _).drew (h _ (Below.refl _ _).drew))
end

end Go.Proofs.YtijkagfppeeegaaDoor
