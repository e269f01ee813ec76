/- What listed makes of the numbers that a Source yields. -/
import Derived.Test.YtfiejdikgbeodaaDnums
namespace Go.Proofs.Ytfiejdikgbeodaa
open Go.RowKit
attribute [local go_sem] Oper.semAt_some

/-- append within a round, at its operation. -/
theorem upon_app {F : Fence} {n : Nat} {P : Program} {l : Nat} {o : Oper} {a : Act} {w : World} {K : Act → World → Prop} {Q : Exit → Act → World → Prop} (hro : F.round = some l) (s x : Operand) (t tx : TypeId)
    (ho : o.op = .call { callee := .builtin .append, args := #[s, x], argTypes := #[t, tx] })
    {base m k sz bt : Nat} {e : TypeId} {z v y : Value} {xs news : List Value} (hT : Elem P t e z sz bt) (hs : a.eval s = v) (hx : a.eval x = y) (hown : w.ownsRow base e sz v k xs) (hsrc : Src P sz tx y m news w)
    (h63 : k + m ≤ maxLen) (hbytes : (k + m) * bt ≤ 140737488355328) (hbase : base ≤ w.heap.size)
    (h : ∀ v' w', w'.ownsRow base e sz v' (k + m) (xs ++ news) → w.grownBy w' v.ownBlock → (v'.ownBlock = v.ownBlock ∨ v'.ownBlock = some w.heap.size) → K (a.put o.dst v') w') :
    o.uponIn F n P a K Q ((o.semAt F.round a.eval).run P w) := by
  obtain ⟨v', w', hr, h1, h2, h3⟩ := run_app (ty := o.type) hT hown hsrc h63 hbytes hbase
  have hd : ∀ c : Call, o.op ≠ .defer c := fun c e => by rw [ho] at e; cases e
  rw [hro]
  have e : (o.semAt (some l) a.eval).run P w = .ok (.value v') w' := by
    unfold Oper.semAt
    simp only [ho]
    unfold execOp
    simp only [ho, resolve, invoke, builtin, Sem.run_bind, Sem.run_pure, Result.andThen_ok, List.map_toArray, List.map_cons, List.map_nil, hs, hx, hr]
  rw [e]
  exact h v' w' h1 h2 h3

/-- What k numbers below N come to. -/
def numsL (N : Int) : Nat → List UInt8 → List Nat
  | 0, _ => []
  | k + 1, l => numOf N l :: numsL N k (l.drop (numUsed N))
theorem numsL_snoc (N : Int) (k : Nat) (l : List UInt8) : numsL N (k + 1) l = numsL N k l ++ [numOf N (l.drop (k * numUsed N))] := by
  induction k generalizing l with
  | zero => simp [numsL]
  | succ k ih => rw [numsL, ih, numsL, List.drop_drop, List.cons_append, Nat.add_mul, Nat.one_mul, Nat.add_comm (numUsed N)]
theorem numsL_len (N : Int) (k : Nat) (l : List UInt8) : (numsL N k l).length = k := by
  induction k generalizing l with
  | zero => rfl
  | succ k ih => rw [numsL, List.length_cons, ih]

theorem bytes_told (x : Nat) (w : World) : Calls Try.prog 59 #[.int .i64 (x : Int)] w fun e w' => e = .returned (.int .u8 (IntKind.u8.wrap (x : Int))) ∧ w = w' := by
  go_enter Try.func59, Try.ntmps59
  go_wp2
  go_ret
  exact ⟨rfl, rfl⟩
theorem text_told (x : Nat) (w : World) : Calls Try.prog 60 #[.int .i64 (x : Int)] w fun e w' => e = .returned (.int .u8 (IntKind.u8.wrap (97 + IntKind.u8.wrap (x : Int)))) ∧ w = w' := by
  go_enter Try.func60, Try.ntmps60
  go_wp2
  go_ret
  exact ⟨rfl, rfl⟩
theorem nums_told (x : Nat) (w : World) : Calls Try.prog 62 #[.int .i64 (x : Int)] w fun e w' => e = .returned (.int .i64 (x : Int)) ∧ w = w' := by
  go_enter Try.func62, Try.ntmps62
  go_wp2
  go_ret
  exact ⟨rfl, rfl⟩
theorem E8 : Elem Try.prog 23 5 (.int .u8 0) 1 1 := Elem.mk_ Try.underlying23 (by kernel_rfl) rfl (by decide)
theorem Ei : Elem Try.prog 41 3 (.int .i64 0) 1 8 := Elem.mk_ Try.underlying41 (by kernel_rfl) rfl (by decide)

/-- Between two rounds: k numbers have come. -/
def LJ (B : Nat) (w : World) (st tt e : TypeId) (told : Value) (p : Option Addr) (l : List UInt8) (N : Int) (ev : Nat → Value) (j k : Nat) (W : World) : Prop :=
  ∃ v, W.heap[w.heap.size]? = some (.cells #[told] tt (0, 0)) ∧ W.heap[w.heap.size + 1]? = some (.cells #[v] st (0, 0)) ∧
    W.ownsRow (w.heap.size + 4) e 1 v k ((numsL N k l).map ev) ∧ Sr B 61 W p (l.drop (j * numUsed N)) ∧ w.grownBy W (gof p)

theorem Sr.apart {B : Nat} {T : TypeId} {w w' : World} {p : Option Addr} {l : List UInt8} (h : Sr B T w p l) {row : Option Nat} (hg : w.grownBy w' row) (hr : ∀ r, row = some r → ∀ G, gof p = some G → r ≠ G ∧ B ≤ r) : Sr B T w' p l := by
  rcases h with h | ⟨g, A, n, c, rfl, hBg, hrow, hrd⟩
  · exact .inl h
  · have hlt : g < w.heap.size := (Array.getElem?_eq_some_iff.1 hrow).1
    refine .inr ⟨g, A, n, c, rfl, hBg, (hg.block g hlt (fun e => (hr g e.symm g rfl).1 rfl)).trans hrow, ?_⟩
    refine hrd.keep fun b o hb => ?_
    unfold World.cell?
    rw [hg.block b (by omega) (fun e => by have := (hr b e.symm g rfl).2; omega)]
theorem Sr.far {B : Nat} {T : TypeId} {w w' : World} {p : Option Addr} {l : List UInt8} (h : Sr B T w p l) {row : Option Nat} (hg : w.grownBy w' row) (hr : ∀ r, row = some r → ∀ G, gof p = some G → G < r) : Sr B T w' p l := by
  refine h.apart hg fun r hrr G hG => ?_
  have := hr r hrr G hG
  rcases h with ⟨rfl, _⟩ | ⟨g, A, n, c, rfl, hBg, hrow, hrd⟩
  · cases hG
  · obtain rfl : g = G := Option.some.inj hG
    omega
theorem row_far {w w' : World} {row : Option Nat} {b : Nat} {o : Obj} (h : w.heap[b]? = some o) (hg : w.grownBy w' row) (hr : some b ≠ row) : w'.heap[b]? = some o :=
  (hg.block b (Array.getElem?_eq_some_iff.1 h).1 hr).trans h

theorem LJ.robust {B : Nat} {w : World} {st tt e : TypeId} {told : Value} {p : Option Addr} {l : List UInt8} {N : Int} {ev : Nat → Value} {j k : Nat} (hp : ∀ g, gof p = some g → g < w.heap.size) :
    Robust (w.heap.size + 2) (LJ B w st tt e told p l N ev j k) := by
  rintro W r o ⟨v, h1, h2, h3, h4, h5⟩ hr hlt
  have hg := grownBy_putObj' W r o
  refine ⟨v, row_far h1 hg (fun e => by cases e; omega), row_far h2 hg (fun e => by cases e; omega), h3.kept hg ?_, h4.far hg ?_, ?_⟩
  · cases hk : v.ownBlock with
    | none => exact .inl rfl
    | some k => exact .inr (fun e => by have := (h3.lt k hk).1; cases e; omega)
  · rintro q hq B hB
    cases hq
    have := hp B hB
    omega
  · exact grownBy_trans h5 hg (.inr fun g e => by cases e; omega)

theorem ite_yes {c : Prop} [Decidable c] {A B : Prop} (h : c) (k : A) : if c then A else B := by rw [if_pos h]; exact k
theorem setCell_grown (w : World) (b : Nat) (u : Value) : w.grownBy (w.setCell ⟨b, 0, none⟩ u) (some b) := setCell_by (World.grownBy.refl w (some b)) (p := ⟨b, 0, none⟩) rfl u

theorem LJ.next {B : Nat} {w W w2 : World} {st tt e : TypeId} {told v v2 u : Value} {p : Option Addr} {l : List UInt8} {N : Int} {ev : Nat → Value} {k : Nat} {o : Obj} (hp : ∀ g, gof p = some g → g < w.heap.size) (hlt : w.heap.size + 3 < W.heap.size)
    (h1 : W.heap[w.heap.size]? = some (.cells #[told] tt (0, 0))) (h2 : W.heap[w.heap.size + 1]? = some (.cells #[v] st (0, 0))) (h3 : W.ownsRow (w.heap.size + 4) e 1 v k ((numsL N k l).map ev))
    (h4 : Sr B 61 W p (l.drop ((k + 1) * numUsed N))) (h5 : w.grownBy W (gof p)) (hu : u = ev (numOf N (l.drop (k * numUsed N))))
    (hown : w2.ownsRow (w.heap.size + 4) e 1 v2 (k + 1) ((numsL N k l).map ev ++ [u])) (hg : (W.drew.alloc o).grownBy w2 v.ownBlock) :
    KeepsRec (w.heap.size + 2) W (w2.setCell ⟨w.heap.size + 1, 0, none⟩ v2) ∧ LJ B w st tt e told p l N ev (k + 1) (k + 1) (w2.setCell ⟨w.heap.size + 1, 0, none⟩ v2) := by
  have hvB : ∀ g, v.ownBlock = some g → w.heap.size + 4 ≤ g := fun g hg => (h3.lt g hg).1
  have g0 : W.grownBy (W.drew.alloc o) none := ⟨rfl, rfl, rfl, by rw [World.size_alloc]; exact Nat.le_succ _, fun i hi _ => heap_alloc_old W.drew o hi⟩
  have g1 : W.grownBy w2 v.ownBlock := grownBy_trans (row := v.ownBlock) (row' := v.ownBlock) ⟨g0.os, g0.tape, g0.output, g0.size, fun i hi _ => g0.block i hi (by simp)⟩ hg (.inl rfl)
  have gs := setCell_grown w2 (w.heap.size + 1) v2
  have r1 := row_far h1 g1 (fun e => by have := hvB _ e.symm; omega)
  have r2 := row_far h2 g1 (fun e => by have := hvB _ e.symm; omega)
  refine ⟨(KeepsRec.grown g1 (by omega) (fun r hr => by have := hvB r hr; omega)).trans (KeepsRec.grown gs (by have := g1.size; omega) (fun r hr => by have := Option.some.inj hr; omega)), v2, row_far r1 gs (fun e => by have := Option.some.inj e; omega), ?_, ?_, ?_, ?_⟩
  · rw [heap_setCell_same w2 (w.heap.size + 1) 0 _ _ _ r2]; rfl
  · rw [numsL_snoc, List.map_append, List.map_cons, List.map_nil, ← hu]
    refine hown.kept gs ?_
    cases hk : v2.ownBlock with
    | none => exact .inl rfl
    | some q => exact .inr (fun e => by have := (hown.lt q hk).1; have := Option.some.inj e; omega)
  · exact (h4.far g1 (fun r hr B hB => by have := hvB r hr; have := hp B hB; omega)).far gs (fun r hr B hB => by have := Option.some.inj hr; have := hp B hB; omega)
  · exact grownBy_trans (grownBy_trans h5 g1 (.inr fun g e => by have := hvB g e; omega)) gs (.inr fun g e => by have := Option.some.inj e; omega)

end Go.Proofs.Ytfiejdikgbeodaa
