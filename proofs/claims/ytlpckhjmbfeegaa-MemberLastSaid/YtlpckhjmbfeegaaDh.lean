/- The program's chain and the reference's, side by side. -/
import Derived.Test.YtlpckhjmbfeegaaDg
import Derived.Test.YtlpckhjmbfeegaaCr
namespace Go.Proofs.Ytlpckhjmbfeegaa
open Go.RowKit
set_option maxRecDepth 20000
theorem Ck.low {W : World} {B B' g : Nat} {v : Value} {t : Cv} (h : Ck W B g v t) (hB : B' ≤ B) : Ck W B' g v t := ⟨h.row, ownsRow_low h.own hB, Nat.le_trans hB h.lo, h.room, h.bound⟩
theorem Beside.arg {w W : World} {g : Nat} {v : Value} {t : Cv} {A : Option Addr} {n c : Nat} {l : List It} (h : Rd w w.heap.size 3 A n c (its l)) (hl : l.length = n) (hf : n ≤ 5000) (hb : Below w.heap.size w W) (hc : Ck W w.heap.size g v t) : Beside W g v A n c l := by
  refine ⟨(h.below hb).more hb.size, hl, hf, fun hn b o hA hF => ?_⟩
  obtain ⟨b', o', hA', hb', _⟩ := h.2.2.2 hn
  rw [hA] at hA'
  cases hA'
  have := (hc.foot hF).1
  omega
/-- The law's chain, the reference's, and a row p beside them. -/
structure Two (w W : World) (g : Nat) (v : Value) (t : Cv) (gr : Nat) (A : Option Addr) (c : Nat) (u : Cv) (p : Nat) (ob : Obj) : Prop where
  ck : Ck W w.heap.size g v t
  rk : Rk W gr A c u
  ng : ¬ Foot g v gr
  na : 0 < u.l.length → ∀ b o, A = some ⟨b, o, none⟩ → ¬ Foot g v b
  lo : w.heap.size ≤ gr
  bel : Below w.heap.size w W
  row : W.heap[p]? = some ob
  np : ¬ Foot g v p
  nr : p ≠ gr
section
variable {w W W' : World} {g gr c p : Nat} {v : Value} {t t' u u' : Cv} {A : Option Addr} {ob : Obj}
theorem Two.below (h : Two w W g v t gr A c u p ob) (hb : Below W.heap.size W W') : Two w W' g v t gr A c u p ob :=
  ⟨h.ck.below hb, h.rk.below hb, h.ng, h.na, h.lo, h.bel.trans (hb.mono h.bel.size), row_below h.row hb, h.np, h.nr⟩
theorem Two.lt (h : Two w W g v t gr A c u p ob) : p < W.heap.size := (Array.getElem?_eq_some_iff.1 h.row).1
theorem foot_new {N : Nat} {v v' : Value} {i : Nat} (ho : v'.ownBlock = v.ownBlock ∨ ∀ q, v'.ownBlock = some q → N ≤ q) (hi : i < N) (h : ¬ Foot g v i) : ¬ Foot g v' i := by
  rintro (rfl | h1)
  · exact h (.inl rfl)
  · rcases ho with ho | ho
    · exact h (.inr (ho ▸ h1))
    · have := ho i h1
      omega
theorem Two.prog (h : Two w W g v t gr A c u p ob) (m : Mv W w.heap.size g v t' W') : ∃ v', Two w W' g v' t' gr A c u p ob ∧ Keeps (Foot g v) W W' := by
  obtain ⟨v', h1, h2, h3⟩ := m
  refine ⟨v', ⟨h1, h.rk.keeps h2 h.ng h.na, foot_new h3 h.rk.lt h.ng, fun hn b o hA => ?_, h.lo, h.bel.trans (h.ck.keepsB h2 h.bel.size), h2.row h.row h.np, foot_new h3 h.lt h.np, h.nr⟩, h2⟩
  obtain ⟨b', o', hA', hb', _⟩ := h.rk.rd.2.2.2 hn
  rw [hA] at hA'
  cases hA'
  exact foot_new h3 hb' (h.na hn b o hA)
theorem Two.ref (h : Two w W g v t gr A c u p ob) (m : RMv W gr A u.l.length u' W') : ∃ A' c', Two w W' g v t gr A' c' u' p ob := by
  obtain ⟨A', c', h1, h2, h3⟩ := m
  have hk : ∀ i, Foot g v i → ¬ i = gr := fun i hi e => h.ng (e ▸ hi)
  refine ⟨A', c', ⟨h.ck.keeps h2 hk, h1, h.ng, fun hn b o hA hF => ?_, h.lo, h.bel.trans (h2.below h.bel.size (fun i hi => by rw [hi]; exact h.lo)), h2.row h.row h.nr, h.np, h.nr⟩⟩
  rcases h3 hn b o hA with ⟨h0, o', hA'⟩ | h4
  · exact h.na h0 b o' hA' hF
  · have := (h.ck.foot hF).2
    omega
/-- A clone beside them. -/
structure Swp (w W : World) (g : Nat) (v : Value) (t : Cv) (gr : Nat) (A : Option Addr) (c : Nat) (u : Cv) (p : Nat) (ob : Obj) (g' : Nat) (v' : Value) (td : Cv) : Prop where
  two : Two w W g v t gr A c u p ob
  ckd : Ck W w.heap.size g' v' td
  dj : ∀ i, Foot g v i → ¬ Foot g' v' i
  ngd : ¬ Foot g' v' gr
  nad : 0 < u.l.length → ∀ b o, A = some ⟨b, o, none⟩ → ¬ Foot g' v' b
  npd : ¬ Foot g' v' p
theorem Two.clone {g' : Nat} {v' : Value} {td : Cv} (h : Two w W g v t gr A c u p ob) (hc : Ck W' W.heap.size g' v' td) (hb : Below W.heap.size W W') : Swp w W' g v t gr A c u p ob g' v' td := by
  have far : ∀ i, i < W.heap.size → ¬ Foot g' v' i := fun i hi hf => by have := (hc.foot hf).1; omega
  refine ⟨h.below hb, hc.low h.bel.size, fun i hi => far i (h.ck.foot hi).2, far gr h.rk.lt, fun hn b o hA => ?_, far p h.lt⟩
  obtain ⟨b', o', hA', hb', _⟩ := h.rk.rd.2.2.2 hn
  rw [hA] at hA'
  cases hA'
  exact far b hb'
theorem Swp.below {g' : Nat} {v' : Value} {td : Cv} (h : Swp w W g v t gr A c u p ob g' v' td) (hb : Below W.heap.size W W') : Swp w W' g v t gr A c u p ob g' v' td :=
  ⟨h.two.below hb, h.ckd.below hb, h.dj, h.ngd, h.nad, h.npd⟩
theorem Swp.prog {g' : Nat} {v' : Value} {td : Cv} (h : Swp w W g v t gr A c u p ob g' v' td) (m : Mv W w.heap.size g v t' W') : ∃ v2, Swp w W' g v2 t' gr A c u p ob g' v' td := by
  have m' := m
  obtain ⟨v2, h1, h2, h3⟩ := m
  obtain ⟨v3, r1, _⟩ := h.two.prog ⟨v2, h1, h2, h3⟩
  have hck : Ck W' w.heap.size g' v' td := h.ckd.keeps h2 (fun i hi hf => h.dj i hf hi)
  have e : v3 = v2 := by
    have a := r1.ck.c2
    have b := h1.c2
    rw [a] at b
    exact Option.some.inj b
  subst e
  refine ⟨v3, ⟨r1, hck, fun i hi hf => ?_, h.ngd, h.nad, h.npd⟩⟩
  exact foot_new h3 (h.ckd.foot hf).2 (fun h4 => h.dj i h4 hf) hi
theorem Swp.done {g' : Nat} {v' : Value} {td : Cv} (h : Swp w W g v t gr A c u p ob g' v' td) : Two w W g' v' td gr A c u p ob :=
  ⟨h.ckd, h.two.rk, h.ngd, h.nad, h.two.lo, h.two.bel, h.two.row, h.npd, h.two.nr⟩
end
end Go.Proofs.Ytlpckhjmbfeegaa
