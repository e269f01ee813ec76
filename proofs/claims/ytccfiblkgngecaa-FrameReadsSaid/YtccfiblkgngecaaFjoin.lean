/- frame.joined: the pieces of so many sectors. -/
import Derived.Test.YtccfiblkgngecaaFchunk
import Derived.Test.YtccfiblkgngecaaLens
namespace Go.Proofs.Ytccfiblkgngecaa
open Go.RowKit
attribute [local go_sem] Oper.semAt_some

theorem ite_yes {c : Prop} [Decidable c] {A B : Prop} (h : c) (k : A) : if c then A else B := by rw [if_pos h]; exact k
theorem setCell_grown (w : World) (b : Nat) (u : Value) : w.grownBy (w.setCell ⟨b, 0, none⟩ u) (some b) := setCell_by (World.grownBy.refl w (some b)) (p := ⟨b, 0, none⟩) rfl u
theorem row_far {w w' : World} {row : Option Nat} {b : Nat} {o : Obj} (h : w.heap[b]? = some o) (hg : w.grownBy w' row) (hr : some b ≠ row) : w'.heap[b]? = some o :=
  (hg.block b (Array.getElem?_eq_some_iff.1 h).1 hr).trans h
theorem below_grown {w w' : World} (h : Below w.heap.size w w') (row : Option Nat) : w.grownBy w' row := ⟨h.os, h.tape, h.output, h.size, fun i hi _ => h.block i hi⟩
theorem row_below {w w' : World} {b : Nat} {o : Obj} (h : w.heap[b]? = some o) (hb : Below w.heap.size w w') : w'.heap[b]? = some o :=
  (hb.block b (Array.getElem?_eq_some_iff.1 h).1).trans h
/-- append within a round, at its operation. -/
theorem upon_app {F : Fence} {n : Nat} {P : Program} {l : Nat} {o : Oper} {a : Act} {w : World} {K : Act → World → Prop} {Q : Exit → Act → World → Prop} (hro : F.round = some l) (s x : Operand) (t tx : TypeId)
    (ho : o.op = .call { callee := .builtin .append, args := #[s, x], argTypes := #[t, tx] })
    {base m k sz bt : Nat} {e : TypeId} {z v y : Value} {xs news : List Value} (hT : Elem P t e z sz bt) (hs : a.eval s = v) (hx : a.eval x = y) (hown : w.ownsRow base e sz v k xs) (hsrc : Src P sz tx y m news w)
    (h63 : k + m ≤ maxLen) (hbytes : (k + m) * bt ≤ 140737488355328) (hbase : base ≤ w.heap.size)
    (h : ∀ v' w', w'.ownsRow base e sz v' (k + m) (xs ++ news) → w.grownBy w' v.ownBlock → (v'.ownBlock = v.ownBlock ∨ v'.ownBlock = some w.heap.size) → K (a.put o.dst v') w') :
    o.uponIn F n P a K Q ((o.semAt F.round a.eval).run P w) := by
  obtain ⟨v', w', hr, h1, h2, h3⟩ := run_app (ty := o.type) hT hown hsrc h63 hbytes hbase
  rw [hro]
  have e : (o.semAt (some l) a.eval).run P w = .ok (.value v') w' := by
    unfold Oper.semAt
    simp only [ho]
    unfold execOp
    simp only [ho, resolve, invoke, builtin, Sem.run_bind, Sem.run_pure, Result.andThen_ok, List.map_toArray, List.map_cons, List.map_nil, hs, hx, hr]
  rw [e]
  exact h v' w' h1 h2 h3

theorem chunk_any (A : Option Addr) (n c : Nat) (w : World) :
    Calls Try.prog 34 #[.slice A n c, .int .i64 64] w fun e w' => e = .returned (.func (.func 48) #[] #[.pointer (some ⟨w.heap.size, 0, none⟩), .pointer (some ⟨w.heap.size + 1, 0, none⟩)]) ∧
      w'.heap[w.heap.size]? = some (.cells #[.slice A n c] 23 (0, 0)) ∧ w'.heap[w.heap.size + 1]? = some (.cells #[.int .i64 64] 3 (0, 0)) ∧ w'.heap.size = w.heap.size + 2 ∧ Below w.heap.size w w' := by
  go_enter Try.func34, Try.ntmps34
  go_wp2
  obtain ⟨W0, hW0, hz0, hr0, hr1, hb0⟩ := boxes2 w #[.slice A n c] #[.int .i64 64] 23 3
  rw [← hW0]
  go_ret
  exact ⟨rfl, hr0, hr1, hz0, hb0⟩

/-- The sector number i, its piece, and the pieces of k sectors. -/
def sect (l : List UInt8) (i : Nat) : List UInt8 := (l.drop (64 * i)).take 64
def piece (l : List UInt8) (i : Nat) : List UInt8 := ((sect l i).drop 8).take 48
def pieces (l : List UInt8) : Nat → List UInt8
  | 0 => []
  | k + 1 => pieces l k ++ piece l k
/-- What is wrong with the first of k sectors that is none of the frame's. -/
def errAt (l : List UInt8) (m : Nat) : Nat → Int
  | 0 => 0
  | k + 1 => if errAt l m k ≠ 0 then errAt l m k else wrongOf (sect l k) m
def joinedOf (l : List UInt8) (k m : Nat) : List UInt8 × Int := if l.length < 64 * k then ([], 10) else if errAt l m k ≠ 0 then ([], errAt l m k) else (pieces l k, 0)
theorem errAt_stays (l : List UInt8) (m j k : Nat) (h : j ≤ k) (he : errAt l m j ≠ 0) : errAt l m k = errAt l m j := by
  induction k with
  | zero => obtain rfl : j = 0 := by omega
            rfl
  | succ k ih =>
    rcases Nat.lt_or_ge j (k + 1) with h1 | h1
    · have := ih (by omega)
      rw [errAt, if_pos (by rw [this]; exact he), this]
    · obtain rfl : j = k + 1 := by omega
      rfl
theorem piece_len (l : List UInt8) (i : Nat) (h : 64 * (i + 1) ≤ l.length) : (piece l i).length = 48 := by
  simp only [piece, sect, List.length_take, List.length_drop]
  omega
theorem pieces_len (l : List UInt8) (k : Nat) (h : 64 * k ≤ l.length) : (pieces l k).length = 48 * k := by
  induction k with
  | zero => rfl
  | succ k ih =>
    rw [pieces, List.length_append, ih (by omega), piece_len _ _ (by omega)]
    omega

/-- Between two rounds: k sectors are the frame's, and their pieces are laid. -/
structure JJ (w : World) (m : Nat) (A : Option Addr) (n c : Nat) (l : List UInt8) (k : Nat) (W : World) : Prop where
  ok : errAt l m k = 0
  num : W.heap[w.heap.size]? = some (.cells #[.int .u64 (m : Int)] 22 (0, 0))
  r1 : W.heap[w.heap.size + 1]? = some (.cells #[.slice none 0 0] 23 (0, 0))
  r2 : W.heap[w.heap.size + 2]? = some (.cells #[.int .i64 0] 25 (0, 0))
  cell : ∃ v, W.heap[w.heap.size + 4]? = some (.cells #[v] 23 (0, 0)) ∧ W.ownsRow (w.heap.size + 3) 5 1 v (48 * k) (u8s (pieces l k)) ∧ ∀ q, v.ownBlock = some q → q = w.heap.size + 3 ∨ w.heap.size + 9 ≤ q
  b1 : W.heap[w.heap.size + 5]? = some (.cells #[.slice A n c] 23 (0, 0))
  b2 : W.heap[w.heap.size + 6]? = some (.cells #[.int .i64 64] 3 (0, 0))
  bel : Below w.heap.size w W
theorem JJ.step {w W W' : World} {m n c k : Nat} {A : Option Addr} {l : List UInt8} (h : JJ w m A n c l k W) {row : Option Nat} (hg : W.grownBy W' row) (hr : ∀ r, row = some r → w.heap.size + 7 ≤ r ∧ (r < w.heap.size + 9 ∨ W.heap.size ≤ r)) : JJ w m A n c l k W' := by
  have far : ∀ b, b < w.heap.size + 7 → some b ≠ row := fun b hb e => by have := hr b e.symm; omega
  obtain ⟨v, h1, h2, h3⟩ := h.cell
  refine ⟨h.ok, row_far h.num hg (far _ (by omega)), row_far h.r1 hg (far _ (by omega)), row_far h.r2 hg (far _ (by omega)), ⟨v, row_far h1 hg (far _ (by omega)), h2.kept hg ?_, h3⟩, row_far h.b1 hg (far _ (by omega)), row_far h.b2 hg (far _ (by omega)), h.bel.grown hg h.bel.size (fun r e => by have := hr r e; omega)⟩
  cases hk : v.ownBlock with
  | none => exact .inl rfl
  | some q => exact .inr (fun e => by have := h3 q hk; have := (h2.lt q hk).2; have := hr q e.symm; omega)
theorem JJ.below {w W W' : World} {m n c k : Nat} {A : Option Addr} {l : List UInt8} (h : JJ w m A n c l k W) (hb : Below W.heap.size W W') : JJ w m A n c l k W' :=
  h.step (below_grown hb none) (fun r e => by cases e)
theorem JJ.drewN {w W : World} {m n c k : Nat} {A : Option Addr} {l : List UInt8} (h : JJ w m A n c l k W) (d : Nat) : JJ w m A n c l k (W.drewN d) :=
  h.below ⟨rfl, rfl, rfl, Nat.le_refl _, fun _ _ => rfl⟩
theorem JJ.robust {w : World} {m n c k : Nat} {A : Option Addr} {l : List UInt8} : Robust (w.heap.size + 7) (JJ w m A n c l k) := fun W r o h hr hlt =>
  h.step (grownBy_putObj' W r o) (fun q e => by have := Option.some.inj e; omega)
/-- Behind what a round lays. -/
theorem JJ.next {w W w2 : World} {m n c k : Nat} {A : Option Addr} {l : List UInt8} {v v2 : Value} (h : JJ w m A n c l k W) (he : wrongOf (sect l k) m = 0) (hc : W.heap[w.heap.size + 4]? = some (.cells #[v] 23 (0, 0))) (hown : W.ownsRow (w.heap.size + 3) 5 1 v (48 * k) (u8s (pieces l k))) (hv : ∀ q, v.ownBlock = some q → q = w.heap.size + 3 ∨ w.heap.size + 9 ≤ q)
    (hW : w.heap.size + 9 ≤ W.heap.size) (hown2 : w2.ownsRow (w.heap.size + 3) 5 1 v2 (48 * k + 48) (u8s (pieces l k) ++ u8s (piece l k))) (hg : W.drew.grownBy w2 v.ownBlock) (ha : v2.ownBlock = v.ownBlock ∨ v2.ownBlock = some W.heap.size) :
    KeepsRec (w.heap.size + 7) W (w2.setCell ⟨w.heap.size + 4, 0, none⟩ v2) ∧ JJ w m A n c l (k + 1) (w2.setCell ⟨w.heap.size + 4, 0, none⟩ v2) := by
  have hg' : W.grownBy w2 v.ownBlock := ⟨hg.os, hg.tape, hg.output, hg.size, hg.block⟩
  have gs := setCell_grown w2 (w.heap.size + 4) v2
  have hv2 : ∀ q, v2.ownBlock = some q → q = w.heap.size + 3 ∨ w.heap.size + 9 ≤ q := by
    intro q hq
    rcases ha with ha | ha
    · exact hv q (ha ▸ hq)
    · rw [ha] at hq
      have := Option.some.inj hq
      omega
  have far : ∀ b o, W.heap[b]? = some o → b < w.heap.size + 9 → b ≠ w.heap.size + 3 → b ≠ w.heap.size + 4 → (w2.setCell ⟨w.heap.size + 4, 0, none⟩ v2).heap[b]? = some o := fun b o hb h1 h2 h3 =>
    row_far (row_far hb hg' (fun e => by have := hv b e.symm; omega)) gs (fun e => h3 (Option.some.inj e))
  have hr4 := row_far hc hg' (fun e => by have := hv _ e.symm; omega)
  refine ⟨(KeepsRec.grown hg' (by omega) (fun r hr => by have := hv r hr; omega)).trans (KeepsRec.grown gs (by have := hg'.size; omega) (fun r hr => by have := Option.some.inj hr; omega)), ?_⟩
  refine ⟨by rw [errAt, if_neg (by rw [h.ok]; decide), he], far _ _ h.num (by omega) (by omega) (by omega), far _ _ h.r1 (by omega) (by omega) (by omega), far _ _ h.r2 (by omega) (by omega) (by omega), ⟨v2, ?_, ?_, hv2⟩, far _ _ h.b1 (by omega) (by omega) (by omega), far _ _ h.b2 (by omega) (by omega) (by omega), ?_⟩
  · rw [heap_setCell_same w2 (w.heap.size + 4) 0 _ _ _ hr4]; rfl
  · rw [pieces, u8s_app, show 48 * (k + 1) = 48 * k + 48 from by omega]
    refine hown2.kept gs ?_
    cases hk : v2.ownBlock with
    | none => exact .inl rfl
    | some q => exact .inr (fun e => by have := hv2 q hk; have := Option.some.inj e; omega)
  · exact (h.bel.grown hg' h.bel.size (fun q e => by have := hv q e; omega)).grown gs (Nat.le_trans h.bel.size hg'.size) (fun q e => by have := Option.some.inj e; omega)

end Go.Proofs.Ytccfiblkgngecaa
