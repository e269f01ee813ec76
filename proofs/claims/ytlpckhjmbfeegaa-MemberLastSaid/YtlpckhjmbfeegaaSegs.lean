/- A statement whose order Go leaves open, and which holds calls that make memory beside operations that only read: one walk serves every order. The operations that only read yield the same in every world that the calls may leave (a condition S says which worlds), so each may be taken as soon as what it reads is there; what makes memory is all that can come up, once these are taken. -/
import Derived.Test.YtlpckhjmbfeegaaWords
import Derived.OrdersHeld
namespace Go.Proofs.Ytlpckhjmbfeegaa
open Go.RowKit

/-- Operations that yield a value whatever happens, if they come to an end. -/
def plainOp : Op → Bool
  | .move _ | .assign _ | .pick _ _ _ | .load _ _ | .binOp _ _ _ _ _ | .unOp _ _ _ | .convert _ _ _ | .slice _ _ _ _ _ | .fieldAddr _ _ _ | .field _ _ _ | .indexAddr _ _ _ | .index _ _ _ | .lookup _ _ _ _ | .extract _ _ | .build _ _ | .makeFunc _ _ _ => true
  | .nilCheck _ => true
  | .call c => match c.callee with | .builtin .len | .builtin .max | .builtin .min => true | _ => false
  | _ => false

section
variable {P : Program}
theorem ok_value {s : Sem Value} {w w' : World} {n : Next} (h : (do pure (Next.value (← s)) : Sem Next).run P w = .ok n w') : ∃ u, n = .value u := by
  simp only [Sem.run_bind, Sem.run_pure] at h
  cases hs : s.run P w with
  | ok u w1 => rw [hs] at h; simp only [Result.andThen] at h; cases h; exact ⟨u, rfl⟩
  | halt x w1 => rw [hs] at h; simp only [Result.andThen] at h; cases h
theorem plain_value {o : Oper} {e : Operand → Value} {w w' : World} {n : Next} (hp : plainOp o.op = true) (h : (execOp e o).run P w = .ok n w') : ∃ u, n = .value u := by
  unfold execOp at h
  cases ho : o.op <;> rw [ho] at hp h <;> simp only [plainOp, Bool.false_eq_true] at hp <;> dsimp only at h
  case move x => simp only [Sem.run_pure] at h; cases h; exact ⟨_, rfl⟩
  case assign x => simp only [Sem.run_pure] at h; cases h; exact ⟨_, rfl⟩
  case pick c a b =>
    simp only [Sem.run_bind, Sem.run_pure] at h
    cases hs : (asBool (e c)).run P w with
    | ok u w1 => rw [hs] at h; simp only [Result.andThen] at h; cases h; exact ⟨_, rfl⟩
    | halt x w1 => rw [hs] at h; simp only [Result.andThen] at h; cases h
  case nilCheck x =>
    split at h
    · simp [runtimePanic, Sem.run_bind] at h
    · simp [runtimePanic, Sem.run_bind] at h
    · simp [runtimePanic, Sem.run_bind] at h
    · split at h
      · simp [runtimePanic, Sem.run_bind] at h
      · next t v' _ =>
        simp only [Sem.run_bind] at h
        cases hs : Sem.run P program w with
        | halt x w1 => rw [hs] at h; simp only [Result.andThen] at h; cases h
        | ok p w1 =>
          rw [hs] at h
          simp only [Result.andThen] at h
          split at h
          · split at h
            · simp [unsupported] at h
            · simp only [Sem.run_pure] at h; cases h; exact ⟨_, rfl⟩
          · cases h
      · simp only [Sem.run_pure] at h; cases h; exact ⟨_, rfl⟩
    · simp only [Sem.run_pure] at h; cases h; exact ⟨_, rfl⟩
  case call c =>
    have key : ∀ b, c.callee = .builtin b → (b = .len ∨ b = .max ∨ b = .min) → ∃ u, n = .value u := by
      intro b hb hb'
      simp only [resolve, hb, Sem.run_bind, Sem.run_pure, Result.andThen_ok, invoke] at h
      rcases hb' with rfl | rfl | rfl <;> (simp only [builtin] at h; exact ok_value (by simpa only [Sem.run_bind, Sem.run_pure] using h))
    split at hp
    · next hb => exact key _ hb (.inl rfl)
    · next hb => exact key _ hb (.inr (.inl rfl))
    · next hb => exact key _ hb (.inr (.inr rfl))
    · cases hp
  all_goals exact ok_value h

/-- The operations of these numbers. -/
def pickI (ops : Array Oper) : List Nat → List Oper
  | [] => []
  | i :: r => (ops[i]?).toList ++ pickI ops r

def runOk (md : Region.Mode) (ops : Array Oper) : List Nat → Array Bool → Bool
  | [], _ => true
  | i :: r, listed => (match ops[i]? with | some o => plainOp o.op | none => false) && (Region.free md ops listed i && ((Region.ready md ops listed).contains i && runOk md ops r (listed.setIfInBounds i true)))
def marked (listed : Array Bool) : List Nat → Array Bool
  | [] => listed
  | i :: r => marked (listed.setIfInBounds i true) r
def segOk (md : Region.Mode) (ops : Array Oper) : List (List Nat × Nat) → List Nat → Array Bool → Bool
  | [], last, listed => runOk md ops last listed && (Region.ready md ops (marked listed last) == [])
  | (is, i) :: r, last, listed => runOk md ops is listed && ((Region.ready md ops (marked listed is) == [i]) && segOk md ops r last ((marked listed is).setIfInBounds i true))
def stepsOf : List (List Nat × Nat) → List Nat → Nat
  | [], last => last.length
  | (is, _) :: r, last => is.length + (stepsOf r last + 1)

/-- The walk: runs of operations that only read, each in every world that meets S (they are named by f), and between them the operations that make memory; behind each of these S may be made stronger. -/
def wpSegs (P : Program) (ops : Array Oper) (Q : Exit → Act → World → Prop) : List (List Nat × Nat) → List Nat → (World → Prop) → Act → World → Prop
  | [], last, S, a, w => ∀ f : World → World, (∀ z, S (f z)) → wpQuiet P ops (fun w' => ∃ z, w' = f z) (fun a' => Q .normal a' w) (pickI ops last) a
  | (is, i) :: r, last, S, a, w => ∀ f : World → World, (∀ z, S (f z)) → wpQuiet P ops (fun w' => ∃ z, w' = f z)
      (fun a' => wpOp P ops Q i (fun a'' w'' => ∃ S' : World → Prop, S' w'' ∧ (∀ x, S' x → S x) ∧ wpSegs P ops Q r last S' a'' w'') a' w) (pickI ops is) a

variable {ops : Array Oper} {Q : Exit → Act → World → Prop} {md : Region.Mode}

theorem wpAnyH_imp {S S' : World → Prop} (hS : ∀ x, S' x → S x) : ∀ (fuel : Nat) (listed : Array Bool) (a : Act) (w : World), wpAnyH P md ops Q S' fuel listed a w → wpAnyH P md ops Q S fuel listed a w
  | 0, _, _, _, h => h
  | fuel + 1, _, _, _, h => ⟨h.1, fun i hi => wpOp_mono (fun a' w' h' => ⟨hS _ h'.1, wpAnyH_imp hS fuel _ a' w' h'.2⟩) (h.2 i hi)⟩

theorem take_run {S : World → Prop} {w : World} (hs : Region.noSelect ops = true) (hQ : ∀ (d : Option Tmp) v c a w, Q (.panic c) (a.put d v) w → Q (.panic c) a w) (hS : S w) {C : World → Prop} (hC : ∀ x, S x → C x) {K : Act → Prop} :
    ∀ (is : List Nat) (fuel : Nat) (listed : Array Bool) (a : Act), runOk md ops is listed = true → wpQuiet P ops C K (pickI ops is) a →
      (∀ a', K a' → wpAnyH P md ops Q S fuel (marked listed is) a' w) → wpAnyH P md ops Q S (fuel + is.length) listed a w := by
  intro is
  induction is with
  | nil => intro fuel listed a _ h hk; exact hk a h
  | cons i r ih =>
    intro fuel listed a hok h hk
    simp only [runOk, Bool.and_eq_true] at hok
    obtain ⟨h1, h2, h3, h4⟩ := hok
    cases ho : ops[i]? with
    | none => rw [ho] at h1; cases h1
    | some o =>
      rw [ho] at h1
      have hp : pickI ops (i :: r) = o :: pickI ops r := by simp [pickI, ho]
      rw [hp] at h
      unfold wpQuiet at h
      have fin : ∀ v, YieldsIf P ops S o v a → wpQuiet P ops C K (pickI ops r) (a.put o.dst v) → wpAnyH P md ops Q S (fuel + (i :: r).length) listed a w := by
        intro v hy hr
        exact wpAnyH_take ho hs h2 h3 (fun c a w => hQ o.dst v c a w) hy hS (ih fuel _ _ h4 hr hk)
      by_cases hw : Region.wanted o (yielded ops a.tmps) = true
      · rw [if_pos hw] at h
        obtain ⟨v, hv, hr⟩ := h
        refine fin v (.inl ⟨hw, fun x hx => ?_⟩) hr
        have hq := hv x (hC x hx)
        unfold Oper.quietAt at hq
        cases hrun : (execOp a.eval o).run P x with
        | halt e w1 => rw [hrun] at hq; exact hq.elim
        | ok n w1 =>
          obtain ⟨u, rfl⟩ := plain_value h1 hrun
          rw [hrun] at hq
          obtain ⟨rfl, rfl⟩ := hq
          rfl
      · rw [if_neg hw] at h
        exact fin undef (.inr ⟨by simpa using hw, rfl⟩) h

theorem segs_sound (hs : Region.noSelect ops = true) (hQ : ∀ (d : Option Tmp) v c a w, Q (.panic c) (a.put d v) w → Q (.panic c) a w) :
    ∀ (segs : List (List Nat × Nat)) (last : List Nat) (fuel : Nat) (listed : Array Bool) (S : World → Prop) (a : Act) (w : World), segOk md ops segs last listed = true → stepsOf segs last ≤ fuel → S w →
      wpSegs P ops Q segs last S a w → wpAnyH P md ops Q S fuel listed a w := by
  intro segs
  induction segs with
  | nil =>
    intro last fuel listed S a w hok hf hS h
    simp only [segOk, Bool.and_eq_true, beq_iff_eq] at hok
    classical
    have h1 := h (fun z => if S z then z else w) (fun z => by by_cases hz : S z <;> simp [hz, hS])
    obtain ⟨k, rfl⟩ : ∃ k, fuel = k + last.length := ⟨fuel - last.length, by simp only [stepsOf] at hf; omega⟩
    exact take_run hs hQ hS (fun x hx => ⟨x, by simp [hx]⟩) last k listed a hok.1 h1 fun a' ha' => wpAnyH_done hok.2 ha' k
  | cons s r ih =>
    obtain ⟨is, i⟩ := s
    intro last fuel listed S a w hok hf hS h
    simp only [segOk, Bool.and_eq_true, beq_iff_eq] at hok
    obtain ⟨h1, h2, h3⟩ := hok
    classical
    have hq := h (fun z => if S z then z else w) (fun z => by by_cases hz : S z <;> simp [hz, hS])
    simp only [stepsOf] at hf
    obtain ⟨k, rfl⟩ : ∃ k, fuel = (k + 1) + is.length := ⟨fuel - is.length - 1, by omega⟩
    refine take_run hs hQ hS (fun x hx => ⟨x, by simp [hx]⟩) is (k + 1) listed a h1 hq fun a' ha' => ?_
    refine wpAnyH_all h2 (by simp) fun j hj => ?_
    obtain rfl : j = i := by simpa using hj
    refine wpOp_mono (fun a'' w'' hh => ?_) ha'
    obtain ⟨S', hS', himp, hseg⟩ := hh
    exact ⟨himp _ hS', wpAnyH_imp himp _ _ _ _ (ih last k _ S' a'' w'' h3 (by omega) hS' hseg)⟩

/-- The whole region. -/
theorem wp_segs {Q : Exit → Act → World → Prop} {id : Nat} {l : List Oper} {a : Act} {w : World} (segs : List (List Nat × Nat)) (last : List Nat) (S : World → Prop) (hm : P.follows .mixedOrders = true)
    (hok : (Region.noSelect l.toArray && (segOk .any l.toArray segs last (Array.replicate l.toArray.size false) && decide (stepsOf segs last ≤ l.toArray.size))) = true)
    (hQ : ∀ (d : Option Tmp) v c a w, Q (.panic c) (a.put d v) w → Q (.panic c) a w) (hS : S w.drew) (h : wpSegs P l.toArray Q segs last S a w.drew) : (Code.region id l.toArray true).wp P Q a w := by
  simp only [Bool.and_eq_true, decide_eq_true_eq] at hok
  exact wp_region_held hm (segs_sound hok.1 hQ segs last _ _ S a _ hok.2.1 hok.2.2 hS h)

/-- The same, from a world of which it is known that all that was there is as it was. -/
theorem wp_grow {Q : Exit → Act → World → Prop} {id : Nat} {l : List Oper} {a : Act} {w : World} (segs : List (List Nat × Nat)) (last : List Nat) (hm : P.follows .mixedOrders = true)
    (hok : (Region.noSelect l.toArray && (segOk .any l.toArray segs last (Array.replicate l.toArray.size false) && decide (stepsOf segs last ≤ l.toArray.size))) = true)
    (hQ : ∀ (d : Option Tmp) v c a w, Q (.panic c) (a.put d v) w → Q (.panic c) a w) (h : ∀ wd, Below w.heap.size w wd → wpSegs P l.toArray Q segs last (fun x => Below w.heap.size w x) a wd) : (Code.region id l.toArray true).wp P Q a w :=
  wp_segs segs last (fun x => Below w.heap.size w x) hm hok hQ (Below.refl _ _).drew (h _ (Below.refl _ _).drew)

/-- The same, where all below a block N stays as it is (what is written lies at N or above). -/
theorem wp_low {Q : Exit → Act → World → Prop} {id : Nat} {l : List Oper} {a : Act} {w : World} (N : Nat) (segs : List (List Nat × Nat)) (last : List Nat) (hm : P.follows .mixedOrders = true)
    (hok : (Region.noSelect l.toArray && (segOk .any l.toArray segs last (Array.replicate l.toArray.size false) && decide (stepsOf segs last ≤ l.toArray.size))) = true)
    (hQ : ∀ (d : Option Tmp) v c a w, Q (.panic c) (a.put d v) w → Q (.panic c) a w) (_ : N ≤ w.heap.size) (h : ∀ wd, Below w.heap.size w wd → wpSegs P l.toArray Q segs last (fun x => Below N w x) a wd) : (Code.region id l.toArray true).wp P Q a w :=
  wp_segs segs last (fun x => Below N w x) hm hok hQ ((Below.refl _ _).drew) (h _ (Below.refl _ _).drew)
theorem seg_keep {S : World → Prop} {r : List (List Nat × Nat)} {last : List Nat} {a : Act} {w : World} (h : S w) (k : wpSegs P ops Q r last S a w) : ∃ S' : World → Prop, S' w ∧ (∀ x, S' x → S x) ∧ wpSegs P ops Q r last S' a w := ⟨S, h, fun _ h => h, k⟩

/-- Where of two operations that make memory either may come first: a tree. -/
inductive Seg where
  | fin (last : List Nat)
  | one (is : List Nat) (i : Nat) (k : Seg)
  | two (is : List Nat) (i j : Nat) (k l : Seg)
def Seg.ok (md : Region.Mode) (ops : Array Oper) : Seg → Array Bool → Bool
  | .fin last, listed => runOk md ops last listed && (Region.ready md ops (marked listed last) == [])
  | .one is i k, listed => runOk md ops is listed && ((Region.ready md ops (marked listed is) == [i]) && k.ok md ops ((marked listed is).setIfInBounds i true))
  | .two is i j k l, listed => runOk md ops is listed && ((Region.ready md ops (marked listed is) == [i, j]) && (k.ok md ops ((marked listed is).setIfInBounds i true) && l.ok md ops ((marked listed is).setIfInBounds j true)))
def Seg.steps : Seg → Nat
  | .fin last => last.length
  | .one is _ k => is.length + (k.steps + 1)
  | .two is _ _ k l => is.length + (max k.steps l.steps + 1)
def wpTree (P : Program) (ops : Array Oper) (Q : Exit → Act → World → Prop) (S : World → Prop) : Seg → Act → World → Prop
  | .fin last, a, w => ∀ f : World → World, (∀ z, S (f z)) → wpQuiet P ops (fun w' => ∃ z, w' = f z) (fun a' => Q .normal a' w) (pickI ops last) a
  | .one is i k, a, w => ∀ f : World → World, (∀ z, S (f z)) → wpQuiet P ops (fun w' => ∃ z, w' = f z) (fun a' => wpOp P ops Q i (fun a'' w'' => S w'' ∧ wpTree P ops Q S k a'' w'') a' w) (pickI ops is) a
  | .two is i j k l, a, w => ∀ f : World → World, (∀ z, S (f z)) → wpQuiet P ops (fun w' => ∃ z, w' = f z)
      (fun a' => wpOp P ops Q i (fun a'' w'' => S w'' ∧ wpTree P ops Q S k a'' w'') a' w ∧ wpOp P ops Q j (fun a'' w'' => S w'' ∧ wpTree P ops Q S l a'' w'') a' w) (pickI ops is) a

theorem tree_sound {S : World → Prop} (hs : Region.noSelect ops = true) (hQ : ∀ (d : Option Tmp) v c a w, Q (.panic c) (a.put d v) w → Q (.panic c) a w) :
    ∀ (t : Seg) (fuel : Nat) (listed : Array Bool) (a : Act) (w : World), t.ok md ops listed = true → t.steps ≤ fuel → S w → wpTree P ops Q S t a w → wpAnyH P md ops Q S fuel listed a w := by
  intro t
  induction t with
  | fin last =>
    intro fuel listed a w hok hf hS h
    simp only [Seg.ok, Bool.and_eq_true, beq_iff_eq] at hok
    classical
    have h1 := h (fun z => if S z then z else w) (fun z => by by_cases hz : S z <;> simp [hz, hS])
    obtain ⟨k, rfl⟩ : ∃ k, fuel = k + last.length := ⟨fuel - last.length, by simp only [Seg.steps] at hf; omega⟩
    exact take_run hs hQ hS (fun x hx => ⟨x, by simp [hx]⟩) last k listed a hok.1 h1 fun a' ha' => wpAnyH_done hok.2 ha' k
  | one is i k ih =>
    intro fuel listed a w hok hf hS h
    simp only [Seg.ok, Bool.and_eq_true, beq_iff_eq] at hok
    obtain ⟨h1, h2, h3⟩ := hok
    classical
    have hq := h (fun z => if S z then z else w) (fun z => by by_cases hz : S z <;> simp [hz, hS])
    simp only [Seg.steps] at hf
    obtain ⟨m, rfl⟩ : ∃ m, fuel = (m + 1) + is.length := ⟨fuel - is.length - 1, by omega⟩
    refine take_run hs hQ hS (fun x hx => ⟨x, by simp [hx]⟩) is (m + 1) listed a h1 hq fun a' ha' => ?_
    refine wpAnyH_all h2 (by simp) fun j hj => ?_
    obtain rfl : j = i := by simpa using hj
    exact wpOp_mono (fun a'' w'' hh => ⟨hh.1, ih m _ a'' w'' h3 (by omega) hh.1 hh.2⟩) ha'
  | two is i j k l ihk ihl =>
    intro fuel listed a w hok hf hS h
    simp only [Seg.ok, Bool.and_eq_true, beq_iff_eq] at hok
    obtain ⟨h1, h2, h3, h4⟩ := hok
    classical
    have hq := h (fun z => if S z then z else w) (fun z => by by_cases hz : S z <;> simp [hz, hS])
    simp only [Seg.steps] at hf
    obtain ⟨m, rfl⟩ : ∃ m, fuel = (m + 1) + is.length := ⟨fuel - is.length - 1, by omega⟩
    refine take_run hs hQ hS (fun x hx => ⟨x, by simp [hx]⟩) is (m + 1) listed a h1 hq fun a' ha' => ?_
    refine wpAnyH_all h2 (by simp) fun n hn => ?_
    have hn' : n = i ∨ n = j := by simpa using hn
    rcases hn' with rfl | rfl
    · exact wpOp_mono (fun a'' w'' hh => ⟨hh.1, ihk m _ a'' w'' h3 (by omega) hh.1 hh.2⟩) ha'.1
    · exact wpOp_mono (fun a'' w'' hh => ⟨hh.1, ihl m _ a'' w'' h4 (by omega) hh.1 hh.2⟩) ha'.2

/-- The whole region, all below a block N staying as it is. -/
theorem wp_tree {Q : Exit → Act → World → Prop} {id : Nat} {l : List Oper} {a : Act} {w : World} (N : Nat) (t : Seg) (hm : P.follows .mixedOrders = true)
    (hok : (Region.noSelect l.toArray && (t.ok .any l.toArray (Array.replicate l.toArray.size false) && decide (t.steps ≤ l.toArray.size))) = true)
    (hQ : ∀ (d : Option Tmp) v c a w, Q (.panic c) (a.put d v) w → Q (.panic c) a w) (h : ∀ wd, Below w.heap.size w wd → wpTree P l.toArray Q (fun x => Below N w x) t a wd) : (Code.region id l.toArray true).wp P Q a w := by
  simp only [Bool.and_eq_true, decide_eq_true_eq] at hok
  exact wp_region_held hm (tree_sound hok.1 hQ t _ _ a _ hok.2.1 hok.2.2 (Below.refl _ _).drew (h _ (Below.refl _ _).drew))

/-- An operation that makes memory, behind a run. -/
theorem seg_op {i : Nat} {o : Oper} {a : Act} {w : World} {K : Act → World → Prop} (ho : ops[i]? = some o)
    (h : ∀ K' : Act → World → Prop, Shut (∀ a' w', K a' w' → K' a' w') → if Region.wanted o (yielded ops a.tmps) = true then Oper.wp P o a w K' Q else K' (a.put o.dst undef) w) : wpOp P ops Q i K a w :=
  wpOp_step ho h
end

end Go.Proofs.Ytlpckhjmbfeegaa
