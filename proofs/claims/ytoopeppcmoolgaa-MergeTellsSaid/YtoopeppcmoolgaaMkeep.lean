/- An entry of whom none is later, or unlike, or voids it, is the best. -/
import Derived.Test.YtoopeppcmoolgaaMlives
import Derived.Test.YtoopeppcmoolgaaMalike
namespace Go.Proofs.Ytoopeppcmoolgaa
open Go.RowKit
set_option maxRecDepth 20000

theorem hadN_ge (f : Nat → Bool) : ∀ n k, k < n → f k = true → k < hadN f n := by
  intro n
  induction n with
  | zero => intro k h; omega
  | succ n ih =>
    intro k hk hf
    unfold hadN
    split
    · omega
    · next hn =>
      by_cases h : k = n
      · subst h; exact absurd hf hn
      · exact ih k (by omega) hf
/-- An entry by which x is not gone on with. -/
def En.bad (e x : En) : Prop := (e.ix = x.ix ∧ (x.tm < e.tm ∨ (e.tm = x.tm ∧ e.alike x = false))) ∨ e.voids x = true
theorem keep_fold {V : En → Bool} {x : En} : ∀ l : List En, (∀ e ∈ l, ¬ e.bad x) → l.foldl (bstep V x.ix) (some x) = some x := by
  intro l
  induction l with
  | nil => intro _; rfl
  | cons e l ih =>
    intro h
    have hb : bstep V x.ix (some x) e = some x := by
      unfold bstep
      have hf : btr V x.ix (some x) e = false := by
        unfold btr
        by_cases hi : e.ix = x.ix
        · have : ¬ x.tm < e.tm := fun ht => h e (List.mem_cons_self ..) (.inl ⟨hi, .inl ht⟩)
          simp [this]
        · simp [hi]
      rw [hf]
      rfl
    rw [List.foldl_cons, hb]
    exact ih fun e he => h e (List.mem_cons_of_mem _ he)
theorem keep_bst {Ls : List Li} {L : Li} {x : En} (hL : L.es = [x]) (h : ∀ e ∈ flat (L :: Ls), ¬ e.bad x) : bst (L :: Ls) x.ix = some x := by
  have hfl : flat (L :: Ls) = x :: flat Ls := by unfold flat; rw [List.flatMap_cons, hL]; rfl
  have hv : vd (flat (L :: Ls)) x = false := by
    unfold vd
    rw [List.any_eq_false]
    intro e he hv
    exact h e he (.inr hv)
  unfold bst bestOf
  have hfirst : bstep (vd (flat (L :: Ls))) x.ix none x = some x := by
    unfold bstep btr
    rw [hv]
    simp
  rw [show (flat (L :: Ls)).foldl (bstep (vd (flat (L :: Ls))) x.ix) none = (x :: flat Ls).foldl (bstep (vd (flat (L :: Ls))) x.ix) none by rw [hfl]]
  rw [List.foldl_cons, hfirst]
  exact keep_fold _ fun e he => h e (by rw [hfl]; exact List.mem_cons_of_mem _ he)
theorem ents1 {w : World} {g : Nat} {t : TypeId} {fr : Nat × Nat} {x : En} (h : w.heap[g]? = some (.cells x.cells t fr)) (hx : x.Reads w) : Ents w (some ⟨g, 0, none⟩) 1 1 [x] := by
  refine ⟨⟨Nat.le_refl _, by unfold maxLen; decide, rfl, fun _ => ⟨g, 0, rfl, (Array.getElem?_eq_some_iff.1 h).1, fun j u hu => ?_⟩⟩, rfl, fun e he => by cases List.mem_singleton.1 he; exact hx⟩
  rw [Nat.zero_add, cell_of_row w _ j _ _ _ h]
  have : ens [x] = x.cells.toList := by simp [ens]
  rw [this] at hu
  simpa using hu
theorem own_lit {w : World} {base g n sz : Nat} {e : TypeId} {cs : Array Value} (h : w.heap[g]? = some (.cells cs e (0, 0))) (hs : cs.size = n * sz) (hb : base ≤ g) (hn : n ≤ maxLen) : w.ownsRow base e sz (.slice (some ⟨g, 0, none⟩) n n) n cs.toList :=
  ⟨by rw [Array.length_toList]; exact hs, .inr ⟨g, n, cs, rfl, hb, h, Nat.le_refl _, hn, hs, by rw [List.take_of_length_le (by rw [Array.length_toList]; omega)]⟩⟩
theorem E_li : Elem Try.prog 23 32 (.slice none 0 0) 1 24 := Elem.mk_ Try.underlying23 (by kernel_rfl) rfl (by decide)
theorem slc_cons {w : World} {base g : Nat} {A A' : Option Addr} {n c c' : Nat} {x : En} {Ls : List Li} {t : TypeId} (ho : w.ownsRow base 32 1 (.slice A' (1 + n) c') (1 + n) ([.slice (some ⟨g, 0, none⟩) 1 1] ++ Li.lay.flat Ls)) (hx : w.heap[g]? = some (.cells x.cells t (0, 0))) (hr : x.Reads w) (h : Slc Li.lay w A n c Ls) :
    Slc Li.lay w A' (1 + n) c' (⟨some ⟨g, 0, none⟩, 1, 1, [x]⟩ :: Ls) :=
  ⟨ownsRow_rd ho, by rw [List.length_cons, h.len]; omega, fun l hl => by
    rcases List.mem_cons.1 hl with rfl | hl
    · exact ents1 hx hr
    · exact h.reads l hl⟩
theorem flat_bn {Ls : List Li} {g : Nat} {x : En} (h : ∀ e ∈ flat Ls, e.bn ≤ 200) (hx : x.bn ≤ 200) : ∀ e ∈ flat (⟨some ⟨g, 0, none⟩, 1, 1, [x]⟩ :: Ls), e.bn ≤ 200 := by
  intro e he
  unfold flat at he
  rw [List.flatMap_cons] at he
  rcases List.mem_append.1 he with he | he
  · cases List.mem_singleton.1 he
    exact hx
  · exact h e he
theorem li_one (Ls : List Li) : ∀ u ∈ Li.lay.flat Ls, u.oneCell' = true := by
  intro u hu
  unfold Lay.flat at hu
  obtain ⟨l, _, h⟩ := List.mem_flatMap.1 hu
  have : u = l.v := by simpa [Li.lay, Li.cells] using h
  rw [this]
  rfl
end Go.Proofs.Ytoopeppcmoolgaa
