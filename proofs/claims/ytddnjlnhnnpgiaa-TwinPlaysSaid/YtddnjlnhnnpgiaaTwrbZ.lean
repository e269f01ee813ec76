/- A save of both twins. A crash of both devices. What a twin says of itself stays so. -/
import Derived.Test.YtddnjlnhnnpgiaaTwrxZ
namespace Go.Proofs.Ytddnjlnhnnpgiaa
set_option maxRecDepth 20000
open Go.RowKit

/-- Both devices, a twin on each, of which the program's may have saved already. -/
def MP (X : Nat → Prop) (w W : World) (B g q T U M : Nat) (d : Dv) (r : Rv) (t tr : Tv) (A : Option Addr) (m c : Nat) : Prop :=
  ∃ F1 F2 : Nat → Prop, Own W B g F1 M d ∧ ROwn W B q F2 M r ∧ (∀ i, F1 i → ¬ F2 i) ∧ Tw W T (some ⟨g, 0, none⟩) t ∧ Rtw W U q tr A m c ∧ Rd W W.heap.size 1 A m c (u8s tr.text) ∧ (∀ i, (F1 i ∨ F2 i) → w.heap.size ≤ i ∧ i < W.heap.size ∧ i ≠ T ∧ i ≠ U ∧ ¬ X i)
    ∧ (0 < m → ∀ b o, A = some ⟨b, o, none⟩ → ¬ F1 b ∧ ¬ F2 b ∧ b ≠ T ∧ b ≠ U) ∧ T ≠ U ∧ (w.heap.size ≤ T ∧ ¬ X T) ∧ (w.heap.size ≤ U ∧ ¬ X U) ∧ (∀ i, X i → i < W.heap.size) ∧ Below w.heap.size w W
/-- What a twin says of itself, on a device of so many sectors. -/
structure TB (d : Dv) (t : Tv) : Prop where
  p0 : 0 ≤ t.place
  p1 : t.place ≤ 1
  b0 : 0 ≤ t.base
  s1 : 1 ≤ t.size
  inn : t.base + 2 * t.size ≤ d.n
  n20 : d.n ≤ 20
  next : t.next < 18446744073709551616
  zero : t.number = 0 → t.text = []
  text : t.text.length ≤ 65536
section
variable {X : Nat → Prop} {w W W' : World} {B g q T U M M' m c : Nat} {d : Dv} {r : Rv} {t tr : Tv} {A : Option Addr}
theorem TP.mp (h : TP w W B g q T U M d t A m c) (hb : Below W.heap.size W W') (hX : ∀ i, X i → W.heap.size ≤ i ∧ i < W'.heap.size) : ∃ r, MP X w W' B g q T U M d r t t A m c ∧ Sim d r ∧ d.Ok := by
  obtain ⟨F, ⟨bs, bl, v, k, vs, vl, r, h1, h2, h3, h4, h5, h6, h7, h8, h9⟩, g2, g3, g4, g5, g6, g7, g8, g9, g10⟩ := h
  have hz := hb.size
  refine ⟨r, ⟨Foot g bs bl v, Rfoot q vs vl, ⟨bs, bl, v, k, h1.below hb, h2, h3, fun i hi => hi⟩, ⟨vs, vl, h4.below hb, h5, h6, fun i hi => hi⟩, h7, g2.below hb, g3.below hb, (g4.below hb).more hz, fun i hi => ?_, fun h0 b o e => ?_, g7, ⟨g8, fun hx => ?_⟩, ⟨g9, fun hx => ?_⟩, fun i hi => (hX i hi).2, g10.trans (hb.mono g10.size)⟩, h9, h1.ok⟩
  · have := g5 i (h8 i hi)
    exact ⟨this.1, by omega, this.2.2.1, this.2.2.2, fun hx => by have := hX i hx; omega⟩
  · have := g6 h0 b o e
    exact ⟨fun h => this.1 (h8 b (.inl h)), fun h => this.1 (h8 b (.inr h)), this.2⟩
  · have := hX T hx
    have := g2.lt
    omega
  · have := hX U hx
    have := g3.lt
    omega
theorem MP.tp (h : MP X w W B g q T U M d r t t A m c) (hs : Sim d r) : TP w W B g q T U M d t A m c := by
  obtain ⟨F1, F2, ⟨bs, bl, v, k, h1, h2, h3, f1⟩, ⟨vs, vl, h4, h5, h6, f2⟩, hdj, g2, g3, g4, g5, g6, g7, g8, g9, _, g10⟩ := h
  refine ⟨fun i => F1 i ∨ F2 i, ⟨bs, bl, v, k, vs, vl, r, h1, h2, h3, h4, h5, h6, fun i hi hj => hdj i (f1 i hi) (f2 i hj), fun i hi => hi.imp (f1 i) (f2 i), hs⟩, g2, g3, g4, fun i hi => ?_, fun h0 b o e => ?_, g7, g8.1, g9.1, g10⟩
  · have := g5 i hi
    exact ⟨this.1, this.2.1, this.2.2.1, this.2.2.2.1⟩
  · have := g6 h0 b o e
    exact ⟨fun h => h.elim this.1 this.2.1, this.2.2⟩
/-- The program's save. -/
theorem mp_prog (h : MP X w W B g q T U M d r t tr A m c) (hM : M ≤ 90000) (hb : TB d t) (A' : Option Addr) (n' c' : Nat) (l : List UInt8) (hl : Rd W w.heap.size 1 A' n' c' (u8s l)) (hn : n' ≤ 3000) (hroom : n' ≤ t.room) (hm0 : 0 < t.next) :
    Calls Try.prog 13 #[.pointer (some ⟨T, 0, none⟩), .slice A' n' c'] W fun e w' => e = .returned (.int .i64 (d.save (t.base + t.free * t.size) t.next l).2)
      ∧ MP X w w' B g q T U (M + 80) (d.save (t.base + t.free * t.size) t.next l).1 r (t.after l (d.save (t.base + t.free * t.size) t.next l).2) tr A m c ∧ Keeps (Off X w) W w' := by
  obtain ⟨F1, F2, k1, k2, k3, k4, k5, k6, k7, k8, k9, k10, k11, kX, k12⟩ := h
  have hTF : ¬ F1 T := fun h => (k7 T (.inl h)).2.2.1 rfl
  have b1 := hb.b0
  have b2 := hb.inn
  have b3 := hb.n20
  have b4 := hb.s1
  refine (twsave_ok k1 hM k4 hTF A' n' c' l (hl.more k12.size) hn hb.p0 hb.p1 b1 (by omega) (by omega) (by omega) hroom hm0 hb.next b2).mono ?_
  rintro e w' ⟨rfl, hO, hT, hK⟩
  have hz := hK.size
  have hUlt := k5.lt
  have hTlt := k4.lt
  refine ⟨rfl, ?_, hK.wide (fun i hi => hi.elim (fun h => ⟨(k7 i (.inl h)).1, (k7 i (.inl h)).2.2.2.2⟩) (fun h => by rw [h]; exact k10))⟩
  refine ⟨fun i => F1 i ∨ (W.heap.size ≤ i ∧ i < w'.heap.size), F2, hO.mono (Nat.le_refl _) (fun i hi h => h.imp id (fun h => ⟨h, hi⟩)), k2.keeps hK (fun i hi _ hn => ?_) |>.mono (by omega) (fun i _ h => h), ?_, hT, hK.row k5 ?_, ?_, ?_, ?_, k9, k10, k11, fun i hi => Nat.lt_of_lt_of_le (kX i hi) hz, ?_⟩
  · rcases hi with hi | hi
    · exact k3 i hi hn
    · exact (k7 i (.inr hn)).2.2.1 hi
  · intro i hi h2
    rcases hi with hi | hi
    · exact k3 i hi h2
    · have := (k7 i (.inr h2)).2.1
      omega
  · rintro (h | h)
    · exact (k7 U (.inl h)).2.2.2.1 rfl
    · exact k9 h.symm
  · exact (k6.stayn (fun h0 b o e hb => hK.block b hb (fun h => h.elim (k8 h0 b o e).1 (k8 h0 b o e).2.2.1))).more hz
  · intro i hi
    rcases hi with (hi | hi) | hi
    · have := k7 i (.inl hi)
      exact ⟨this.1, by omega, this.2.2⟩
    · exact ⟨by have := k12.size; omega, hi.2, by omega, by omega, fun hx => by have := kX i hx; omega⟩
    · have := k7 i (.inr hi)
      exact ⟨this.1, by omega, this.2.2⟩
  · intro h0 b o e
    obtain ⟨b', o', e', hb', _⟩ := k6.2.2.2 h0
    rw [e] at e'
    cases e'
    have := k8 h0 b o e
    exact ⟨fun h => h.elim this.1 (fun h => by omega), this.2⟩
  · exact k12.trans (hK.below k12.size (fun i hi => hi.elim (fun h => (k7 i (.inl h)).1) (fun h => by rw [h]; exact k10.1)))
/-- The reference's save. -/
theorem mp_ref (h : MP X w W B g q T U M d r t tr A m c) (hM : M ≤ 90000) (hb : TB d tr) (A' : Option Addr) (n' c' : Nat) (l : List UInt8) (hl : Rd W w.heap.size 1 A' n' c' (u8s l)) (hn : n' ≤ 3000) (hroom : n' ≤ tr.room) (hm0 : 0 < tr.next) :
    Calls Try.prog 14 #[.pointer (some ⟨U, 0, none⟩), .slice A' n' c'] W fun e w' => e = .returned (.int .i64 (r.save (tr.base + tr.free * tr.size) (makeOf tr.next l)).2)
      ∧ (∃ A2 m2 c2, MP X w w' B g q T U (M + 80) d (r.save (tr.base + tr.free * tr.size) (makeOf tr.next l)).1 t (tr.after l (r.save (tr.base + tr.free * tr.size) (makeOf tr.next l)).2) A2 m2 c2) ∧ Keeps (Off X w) W w' := by
  obtain ⟨F1, F2, k1, k2, k3, k4, k5, k6, k7, k8, k9, k10, k11, kX, k12⟩ := h
  have hUF : ¬ F2 U := fun h => (k7 U (.inr h)).2.2.2.1 rfl
  have b1 := hb.b0
  have b2 := hb.inn
  have b3 := hb.n20
  have b4 := hb.s1
  refine (rtsave_ok k5 k2 hUF hM A' n' c' l (hl.more k12.size) hn hb.p0 hb.p1 b1 (by omega) (by omega) (by omega) hroom hm0 hb.next).mono ?_
  rintro e w' ⟨rfl, hO, hU0, hU1, hK⟩
  have hz := hK.size
  have hUlt := k5.lt
  have hTlt := k4.lt
  have hB : Below w.heap.size w w' := k12.trans (hK.below k12.size (fun i hi => hi.elim (fun h => (k7 i (.inr h)).1) (fun h => by rw [h]; exact k11.1)))
  have hO1 : Own w' B g F1 (M + 80) d := (k1.keeps hK (fun i hi _ hn => by
    rcases hi with hi | hi
    · exact k3 i hn hi
    · exact (k7 i (.inl hn)).2.2.2.1 hi)).mono (by omega) (fun i _ h => h)
  have hO2 : ROwn w' B q (fun i => F2 i ∨ (W.heap.size ≤ i ∧ i < w'.heap.size)) (M + 80) (r.save (tr.base + tr.free * tr.size) (makeOf tr.next l)).1 := hO.mono (Nat.le_refl _) (fun i hi h => h.imp id (fun h => ⟨h, hi⟩))
  have hdj : ∀ i, F1 i → ¬ (F2 i ∨ (W.heap.size ≤ i ∧ i < w'.heap.size)) := fun i h1 h2 => by
    rcases h2 with h2 | h2
    · exact k3 i h1 h2
    · have := (k7 i (.inl h1)).2.1
      omega
  have hT' : Tw w' T (some ⟨g, 0, none⟩) t := hK.row k4 (fun h => h.elim (fun h => (k7 T (.inr h)).2.2.1 rfl) k9)
  have hft : ∀ i, (F1 i ∨ (F2 i ∨ (W.heap.size ≤ i ∧ i < w'.heap.size))) → w.heap.size ≤ i ∧ i < w'.heap.size ∧ i ≠ T ∧ i ≠ U ∧ ¬ X i := fun i hi => by
    rcases hi with hi | hi | hi
    · have := k7 i (.inl hi)
      exact ⟨this.1, by omega, this.2.2⟩
    · have := k7 i (.inr hi)
      exact ⟨this.1, by omega, this.2.2⟩
    · exact ⟨by have := k12.size; omega, hi.2, by omega, by omega, fun hx => by have := kX i hx; omega⟩
  refine ⟨rfl, ?_, hK.wide (fun i hi => hi.elim (fun h => ⟨(k7 i (.inr h)).1, (k7 i (.inr h)).2.2.2.2⟩) (fun h => by rw [h]; exact k11))⟩
  by_cases hE : (r.save (tr.base + tr.free * tr.size) (makeOf tr.next l)).2 = 0
  · have ha : tr.after l (r.save (tr.base + tr.free * tr.size) (makeOf tr.next l)).2 = tr.kept l := if_pos hE
    rw [ha]
    refine ⟨A', n', c', F1, _, hO1, hO2, hdj, hT', hU0 hE, ?_, hft, ?_, k9, k10, k11, fun i hi => Nat.lt_of_lt_of_le (kX i hi) hz, hB⟩
    · refine ((hl.stayn (fun h0 b o e hb => ?_)).more hB.size)
      have h1 := hK.block b (Nat.lt_of_lt_of_le hb k12.size) (fun h => h.elim (fun h => by have := (k7 b (.inr h)).1; omega) (fun h => by omega))
      exact h1
    · intro h0 b o e
      obtain ⟨b', o', e', hb', _⟩ := hl.2.2.2 h0
      rw [e] at e'
      cases e'
      exact ⟨fun h => by have := (hft b (.inl h)).1; omega, fun h => by have := (hft b (.inr h)).1; omega, by omega, by omega⟩
  · have ha : tr.after l (r.save (tr.base + tr.free * tr.size) (makeOf tr.next l)).2 = tr.took := if_neg hE
    rw [ha]
    refine ⟨A, m, c, F1, _, hO1, hO2, hdj, hT', hU1 hE, ?_, hft, ?_, k9, k10, k11, fun i hi => Nat.lt_of_lt_of_le (kX i hi) hz, hB⟩
    · exact (k6.stayn (fun h0 b o e hb => hK.block b hb (fun h => h.elim (k8 h0 b o e).2.1 (k8 h0 b o e).2.2.2))).more hz
    · intro h0 b o e
      obtain ⟨b', o', e', hb', _⟩ := k6.2.2.2 h0
      rw [e] at e'
      cases e'
      have := k8 h0 b o e
      exact ⟨this.1, fun h => h.elim this.2.1 (fun h => by omega), this.2.2⟩
end
end Go.Proofs.Ytddnjlnhnnpgiaa

namespace Go.Proofs.Ytddnjlnhnnpgiaa
set_option maxRecDepth 20000
open Go.RowKit

/-- Both devices alone, beside rows X. -/
def DQ (X : Nat → Prop) (w W : World) (B g q M : Nat) (d : Dv) (r : Rv) : Prop :=
  ∃ F1 F2 : Nat → Prop, Own W B g F1 M d ∧ ROwn W B q F2 M r ∧ (∀ i, F1 i → ¬ F2 i) ∧ (∀ i, (F1 i ∨ F2 i) → w.heap.size ≤ i ∧ i < W.heap.size ∧ ¬ X i) ∧ (∀ i, X i → i < W.heap.size) ∧ Below w.heap.size w W
section
variable {X : Nat → Prop} {w W W' : World} {B g q T U M m c : Nat} {d : Dv} {r : Rv} {t : Tv} {A : Option Addr}
theorem DQ.dp (h : DQ X w W B g q M d r) (hs : Sim d r) : DP w W B g q M d := by
  obtain ⟨F1, F2, ⟨bs, bl, v, k, h1, h2, h3, f1⟩, ⟨vs, vl, h4, h5, h6, f2⟩, hdj, g5, _, g10⟩ := h
  exact ⟨fun i => F1 i ∨ F2 i, ⟨bs, bl, v, k, vs, vl, r, h1, h2, h3, h4, h5, h6, fun i hi hj => hdj i (f1 i hi) (f2 i hj), fun i hi => hi.imp (f1 i) (f2 i), hs⟩, fun i hi => ⟨(g5 i hi).1, (g5 i hi).2.1⟩, g10⟩
theorem MP.dq {tr : Tv} (h : MP X w W B g q T U M d r t tr A m c) : DQ X w W B g q M d r := by
  obtain ⟨F1, F2, k1, k2, k3, _, _, _, k7, _, _, _, _, kX, k12⟩ := h
  exact ⟨F1, F2, k1, k2, k3, fun i hi => ⟨(k7 i hi).1, (k7 i hi).2.1, (k7 i hi).2.2.2.2⟩, kX, k12⟩
theorem dq_crash (h : DQ X w W B g q M d r) (hM : M ≤ 90000) (A : Option Addr) (n c : Nat) (ks : List Int) (hl : Rd W w.heap.size 1 A n c (ks.map (Value.int .i64))) (hn : n ≤ 1000000) :
    Calls Try.prog 17 #[.pointer (some ⟨g, 0, none⟩), .slice A n c] W fun e w' => e = .returned (.tuple #[]) ∧ DQ X w w' B g q (M + 16) (d.crash ks) r ∧ Keeps (Off X w) W w' := by
  obtain ⟨F1, F2, k1, k2, k3, k7, kX, k12⟩ := h
  refine (own_crash k1 (by omega) A n c ks (hl.more k12.size) hn (fun h0 b o e hb => ?_)).mono ?_
  · obtain ⟨b', o', e', hb', _⟩ := hl.2.2.2 h0
    rw [e] at e'
    cases e'
    have := (k7 _ (.inl hb)).1
    omega
  · rintro e w' ⟨rfl, hO, hK⟩
    have hz := hK.size
    refine ⟨rfl, ⟨fun i => F1 i ∨ (W.heap.size ≤ i ∧ i < w'.heap.size), F2, hO.mono (Nat.le_refl _) (fun i hi h => h.imp id (fun h => ⟨h, hi⟩)), (k2.keeps hK (fun i hi _ hn => k3 i hi hn)).mono (by omega) (fun i _ h => h), ?_, ?_, fun i hi => Nat.lt_of_lt_of_le (kX i hi) hz, k12.trans (hK.below k12.size (fun i hi => (k7 i (.inl hi)).1))⟩, hK.wide (fun i hi => ⟨(k7 i (.inl hi)).1, (k7 i (.inl hi)).2.2⟩)⟩
    · intro i hi h2
      rcases hi with hi | hi
      · exact k3 i hi h2
      · have := (k7 i (.inr h2)).2.1
        omega
    · intro i hi
      rcases hi with (hi | hi) | hi
      · have := k7 i (.inl hi)
        exact ⟨this.1, by omega, this.2.2⟩
      · exact ⟨by have := k12.size; omega, hi.2, fun hx => by have := kX i hx; omega⟩
      · have := k7 i (.inr hi)
        exact ⟨this.1, by omega, this.2.2⟩
theorem dq_rcrash (h : DQ X w W B g q M d r) (hM : M ≤ 90000) (A : Option Addr) (n c : Nat) (ks : List Int) (hl : Rd W w.heap.size 1 A n c (ks.map (Value.int .i64))) (hn : n ≤ 1000000) :
    Calls Try.prog 18 #[.pointer (some ⟨q, 0, none⟩), .slice A n c] W fun e w' => e = .returned (.tuple #[]) ∧ DQ X w w' B g q (M + 16) d (r.crash ks) ∧ Keeps (Off X w) W w' := by
  obtain ⟨F1, F2, k1, ⟨vs, vl, h4, h5, h6, f2⟩, k3, k7, kX, k12⟩ := h
  refine (rcrash_all h4 h5 h6 (by omega) A n c ks (hl.more k12.size) hn (fun h0 b o e hb => ?_)).mono ?_
  · obtain ⟨b', o', e', hb', _⟩ := hl.2.2.2 h0
    rw [e] at e'
    cases e'
    have := (k7 _ (.inr (f2 _ hb))).1
    omega
  · rintro e w' ⟨rfl, hL⟩
    obtain ⟨hO, hK⟩ := ROwn.of (fun _ h => h) f2 hL
    have hz := hK.size
    refine ⟨rfl, ⟨F1, fun i => F2 i ∨ (W.heap.size ≤ i ∧ i < w'.heap.size), (k1.keeps hK (fun i hi _ hn => k3 i hn hi)).mono (by omega) (fun i _ h => h), hO.mono (Nat.le_refl _) (fun i hi h => h.imp id (fun h => ⟨h, hi⟩)), ?_, ?_, fun i hi => Nat.lt_of_lt_of_le (kX i hi) hz, k12.trans (hK.below k12.size (fun i hi => (k7 i (.inr hi)).1))⟩, hK.wide (fun i hi => ⟨(k7 i (.inr hi)).1, (k7 i (.inr hi)).2.2⟩)⟩
    · intro i h1 h2
      rcases h2 with h2 | h2
      · exact k3 i h1 h2
      · have := (k7 i (.inl h1)).2.1
        omega
    · intro i hi
      rcases hi with hi | hi | hi
      · have := k7 i (.inl hi)
        exact ⟨this.1, by omega, this.2.2⟩
      · have := k7 i (.inr hi)
        exact ⟨this.1, by omega, this.2.2⟩
      · exact ⟨by have := k12.size; omega, hi.2, fun hx => by have := kX i hx; omega⟩
end
end Go.Proofs.Ytddnjlnhnnpgiaa

namespace Go.Proofs.Ytddnjlnhnnpgiaa
set_option maxRecDepth 20000
open Go.RowKit

theorem tb_open {d : Dv} (base : Int) (size : Nat) (h1 : 1 ≤ size) (h0 : 0 ≤ base) (h2 : base + 2 * (size : Int) ≤ d.n) (hn : d.n ≤ 20) : TB d (openTv base size (d.bytes base (2 * size))) := by
  have hf := open_facts base size (d.bytes base (2 * size))
  exact ⟨hf.2.2.1, hf.2.2.2, h0, by show (1 : Int) ≤ (size : Int); omega, h2, hn, Nat.mod_lt _ (by decide), hf.2.1, hf.1⟩
theorem TB.free {d : Dv} {t : Tv} (h : TB d t) : 0 ≤ t.free ∧ t.free ≤ 1 := by
  have := h.p0
  have := h.p1
  unfold Tv.free
  split <;> omega
theorem TB.dev {d d' : Dv} {t : Tv} (h : TB d t) (hn : d'.n = d.n) : TB d' t := ⟨h.p0, h.p1, h.b0, h.s1, by rw [hn]; exact h.inn, by rw [hn]; exact h.n20, h.next, h.zero, h.text⟩
theorem tb_after {d : Dv} {t : Tv} (h : TB d t) (l : List UInt8) (hl : l.length ≤ 65536) (hm : 0 < t.next) (E : Int) : TB d (t.after l E) := by
  unfold Tv.after
  split
  · have hf := h.free
    exact ⟨hf.1, hf.2, h.b0, h.s1, h.inn, h.n20, Nat.mod_lt _ (by decide), fun e => by have e1 : t.next = 0 := e; omega, hl⟩
  · exact ⟨h.p0, h.p1, h.b0, h.s1, h.inn, h.n20, Nat.mod_lt _ (by decide), h.zero, h.text⟩
/-- What a place has room for lies on the device. -/
theorem tb_in {d : Dv} {t : Tv} (h : TB d t) (l : List UInt8) (hr : (l.length : Int) ≤ t.room) : 0 ≤ t.base + t.free * t.size ∧ t.base + t.free * t.size + (sectorsOf l.length : Nat) ≤ d.n ∧ l.length ≤ 65536 := by
  have hf := h.free
  have b0 := h.b0
  have s1 := h.s1
  have hi := h.inn
  have hl : (l.length : Int) ≤ t.size * 48 - 8 ∧ l.length ≤ 65536 := by
    unfold Tv.room at hr
    omega
  have hs := sectorsOf_at l.length hl.2
  rcases (show t.free = 0 ∨ t.free = 1 by omega) with e | e
  · rw [e]; simp; omega
  · rw [e]; simp; omega
theorem Dv.flushed_n (d : Dv) : d.flush.1.n = d.n := by
  unfold Dv.flush
  repeat (first | rfl | split)
theorem Dv.save_n (d : Dv) (x : Int) (m : Nat) (l : List UInt8) : (d.save x m l).1.n = d.n := by
  unfold Dv.save
  split
  · rfl
  · split
    · exact Dv.write_n d x _ _
    · rw [Dv.flushed_n]
      exact Dv.write_n d x _ _
theorem Dv.crash_n (d : Dv) (ks : List Int) : (d.crash ks).n = d.n ∧ (d.crash ks).down = false := ⟨(Dv.crash1_ws d ks d.ws.length).2.1, rfl⟩
end Go.Proofs.Ytddnjlnhnnpgiaa
