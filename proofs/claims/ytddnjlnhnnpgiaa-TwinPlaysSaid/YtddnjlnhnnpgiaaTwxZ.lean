/- A try of a twin: a save within which the power may go, a crash, and what is opened then. A device and a twin on it, beside rows X that no call of theirs turns. -/
import Derived.Test.YtddnjlnhnnpgiaaStandsZ
import Derived.Test.YtddnjlnhnnpgiaaTwlZ
namespace Go.Proofs.Ytddnjlnhnnpgiaa
set_option maxRecDepth 20000
open Go.RowKit

theorem stands_fused {base : Int} {size : Nat} {d : Dv} {t : Tv} (h : Stands base size d t) (n : Int) (hn : Key n) : Stands base size (d.fused n) t := by
  refine ⟨⟨h.ok.n, h.ok.S, h.ok.ws, ?_⟩, h.calm, h.tb, h.ts, h.next, h.ends, ?_⟩
  · unfold Dv.fused
    dsimp only
    have := hn
    unfold Key at this
    split <;> omega
  · rw [h.best]
    congr 1
    exact bytes_same (d.fused n) d _ _ (fun _ _ => rfl)
/-- A crash of a calm device. -/
theorem stands_calm {base : Int} {size : Nat} {d : Dv} {t : Tv} (h : Stands base size d t) (hx : t.next < 256) (ks : List Int) (d' : Dv) (hd' : d' = d.crash ks) :
    Stands base size d' (openTv base size (d'.bytes base (2 * size))) ∧ d'.down = false ∧ d'.fuse = 0 ∧ d'.n = d.n ∧ (openTv base size (d'.bytes base (2 * size))).next ≤ t.next ∧ (openTv base size (d'.bytes base (2 * size))).number = t.number ∧ (openTv base size (d'.bytes base (2 * size))).text = t.text := by
  have hn : d'.n = d.n := by rw [hd']; exact (Dv.crash1_ws d ks d.ws.length).2.1
  have hS : d'.S = d.S := by rw [hd']; unfold Dv.crash; rw [h.calm]; rfl
  have hw : d'.ws = [] := by rw [hd']; rfl
  have hf : d'.fuse = 0 := by rw [hd']; rfl
  have ho : d'.Ok := ⟨by rw [hn]; exact h.ok.n, by rw [hS]; exact h.ok.S, (fun p hp => by rw [hw] at hp; cases hp), by rw [hf]; decide⟩
  have hb : d'.bytes base (2 * size) = d.bytes base (2 * size) := bytes_same d d' _ _ (fun i hi => by rw [seen_calm d' hw, seen_calm d h.calm, hS])
  have hx0 := h.next
  obtain ⟨s1, s2⟩ := stands_open (base := base) (size := size) ho hw (t.next - 1) (by omega) (fun i hi => by rw [hS]; exact h.ends i hi)
  have e := h.best
  rw [← hb] at e
  refine ⟨s1, by rw [hd']; rfl, hf, hn, by omega, ?_⟩
  exact ⟨(Prod.mk.inj (Prod.mk.inj e).2).1.symm, (Prod.mk.inj (Prod.mk.inj e).2).2.symm⟩

/-- What is told of a save, and what becomes of the device. -/
def Tv.tried (t : Tv) (d : Dv) (l : List UInt8) : Dv × Int := if t.room < (l.length : Int) then (d, 11) else d.save (t.base + t.free * t.size) t.next l
/-- Behind a try what was saved last is what it was, or what was to be saved. -/
theorem try_pure {base : Int} {size : Nat} {d : Dv} {t : Tv} (h : Stands base size d t) (hd : d.down = false) (hs : 0 < size) (hs2 : size ≤ 60) (hx : t.next < 255) (l : List UInt8) (ks : List Int) (d2 : Dv) (hd2 : d2 = (t.tried d l).1.crash ks) (t2 : Tv) (ht2 : t2 = openTv base size (d2.bytes base (2 * size))) :
    Stands base size d2 t2 ∧ d2.down = false ∧ d2.n = d.n ∧ t2.next ≤ t.next + 1
    ∧ (((t.tried d l).2 = 0 ∧ 0 < t2.number ∧ t2.text = l) ∨ (((t.tried d l).2 = 50 ∨ (t.tried d l).2 = 11) ∧ t2.number = t.number ∧ t2.text = t.text) ∨ ((t.tried d l).2 = 50 ∧ 0 < t2.number ∧ t2.text = l)) := by
  unfold Tv.tried at hd2 ⊢
  by_cases hr : t.room < (l.length : Int)
  · rw [if_pos hr] at hd2 ⊢
    obtain ⟨s1, s2, s3, s4, s5, s6, s7⟩ := stands_calm h (by omega) ks d2 hd2
    rw [← ht2] at s1 s5 s6 s7
    exact ⟨s1, s2, s4, by omega, .inr (.inl ⟨.inr rfl, s6, s7⟩)⟩
  · rw [if_neg hr] at hd2 ⊢
    have hts := h.ts
    have hl : l.length ≤ 65536 ∧ (l.length : Int) ≤ size * 48 - 8 := by
      unfold Tv.room at hr
      rw [hts] at hr
      omega
    have hK : sectorsOf l.length ≤ size := by
      rw [sectorsOf_at _ hl.1]
      omega
    obtain ⟨s1, s2, s3, s4, s5, s6, s7⟩ := stands_crash h hd hs l hl.1 hK hx ks d2 hd2
    rw [← ht2] at s1 s5 s6 s7
    refine ⟨s1, s2, s4, s5, ?_⟩
    have hx0 := h.next
    rcases Dv.save_pw d (t.base + t.free * t.size) t.next l with he | he
    · left
      have := s7 he
      exact ⟨he, by omega, this.2⟩
    · right
      rcases s6 with s6 | s6
      · exact .inl ⟨.inl he, s6⟩
      · exact .inr ⟨he, by omega, s6.2⟩
theorem stands_zero {base : Int} {size : Nat} {d : Dv} {t : Tv} (h : Stands base size d t) (hn : t.number = 0) : t.text = [] := by
  have hb := h.is
  unfold bestOf at hb
  split at hb
  · rename_i h1
    have := (Prod.mk.inj (Prod.mk.inj hb).2).1
    omega
  · split at hb
    · rename_i h1
      have := (Prod.mk.inj (Prod.mk.inj hb).2).1
      omega
    · exact (Prod.mk.inj (Prod.mk.inj hb).2).2
theorem stands_place {base : Int} {size : Nat} {d : Dv} {t : Tv} (h : Stands base size d t) : 0 ≤ t.place ∧ t.place ≤ 1 := by
  have hb := h.is
  unfold bestOf at hb
  split at hb
  · have := (Prod.mk.inj hb).1
    omega
  · split at hb
    · have := (Prod.mk.inj hb).1
      omega
    · have := (Prod.mk.inj hb).1
      omega
/-- What was saved last, in memory of its own. -/
theorem twlast_far {w : World} {T : Nat} {g : Option Addr} {t : Tv} (h : Tw w T g t) (hn : 0 < t.number) (hl : t.text.length ≤ maxLen) : Calls Try.prog 19 #[.pointer (some ⟨T, 0, none⟩)] w fun e w' => ∃ A c, e = .returned (.tuple #[.slice A t.text.length c, .bool true]) ∧ Rd w' w'.heap.size 1 A t.text.length c (u8s t.text) ∧ (∀ b i, A = some ⟨b, i, none⟩ → w.heap.size ≤ b) ∧ Below w.heap.size w w' := by
  have hN := twnumber_any h
  have c5 := h.c5
  have q1 : ((t.number : Int) == 0) = false := by simp; omega
  have q2 : (t.number == 0) = false := by simp; omega
  generalize t.number = n at *
  generalize t.text = l at *
  have HN := Lib.hid hN
  have HL := Lib.hid hl
  clear hN h hn hl
  go_enter Try.func19, Try.ntmps19
  go_wp2_with (first
    | (go_at_call 21; refine HN.out.mono ?_; rintro e w1 ⟨rfl, rfl⟩)
    | (refine wpL_strb (o := ⟨some 12, _, _, _, _, _⟩) rfl (.tmp 11) _ _ rfl Try.underlying9 Try.underlying38 Try.underlying5 rfl HL.out ?_; intro W A cap hrd hfar hb)
    | fail)
  go_ret2
  exact ⟨A, cap, rfl, hrd, hfar, hb⟩
/-- What was saved last, whatever it is. -/
theorem twlast_all {w : World} {T : Nat} {g : Option Addr} {t : Tv} (h : Tw w T g t) (hz : t.number = 0 → t.text = []) (hl : t.text.length ≤ 65536) : Calls Try.prog 19 #[.pointer (some ⟨T, 0, none⟩)] w fun e w' => ∃ A c, e = .returned (.tuple #[.slice A t.text.length c, .bool (decide (0 < t.number))]) ∧ Rd w' w'.heap.size 1 A t.text.length c (u8s t.text) ∧ (∀ b i, A = some ⟨b, i, none⟩ → w.heap.size ≤ b) ∧ Below w.heap.size w w' := by
  by_cases hn : t.number = 0
  · refine (twlast_none h hn).mono ?_
    rintro e w' ⟨rfl, rfl⟩
    refine ⟨none, 0, ?_, ?_, (fun b i e => by cases e), Below.refl _ _⟩
    · rw [hz hn, hn]; rfl
    · rw [hz hn]; exact Rd.nil_
  · refine (twlast_far h (by omega) (by unfold maxLen; omega)).mono ?_
    rintro e w' ⟨A, c, rfl, hr, hf, hb⟩
    refine ⟨A, c, ?_, hr, hf, hb⟩
    rw [decide_eq_true (by omega : 0 < t.number)]
section
variable {w W : World} {B g T M : Nat} {d : Dv} {t : Tv}
theorem tl_try (h : Tl w W B g T M d t) {base : Int} {size : Nat} (hst : Stands base size d t) (hM : M ≤ 90000) (hs2 : size ≤ 60) (hb0 : 0 ≤ base) (hx : t.next < 255) (hin : base + 2 * size ≤ d.n)
    (A : Option Addr) (n c : Nat) (l : List UInt8) (hl : Rd W W.heap.size 1 A n c (u8s l)) (hn : n ≤ 3000) :
    Calls Try.prog 13 #[.pointer (some ⟨T, 0, none⟩), .slice A n c] W fun e w' => e = .returned (.int .i64 (t.tried d l).2) ∧ ∃ t', Tl w w' B g T (M + 80) (t.tried d l).1 t' := by
  have hln : l.length = n := by have := hl.len; rwa [u8s_len] at this
  have hts := hst.ts
  have htb := hst.tb
  have hok := hst.ok.n
  unfold Tv.tried
  by_cases hr : t.room < (l.length : Int)
  · rw [if_pos hr]
    refine (twsave_long h.tw (by omega) (by omega) A n c (by rw [← hln]; exact hr) (by unfold maxLen; omega)).mono ?_
    rintro e w' ⟨rfl, rfl⟩
    obtain ⟨N, h1, h2, h3, h4, h5, h6⟩ := h
    exact ⟨rfl, t, N, h1.mono (by omega) (fun i _ h => h), h2, h3, h4, h5, h6⟩
  · rw [if_neg hr]
    have hp := stands_place hst
    refine (tl_save h hM A n c l hl hn hp.1 hp.2 (by omega) (by omega) (by omega) (by omega) (by rw [← hln]; omega) hst.next (by omega) (by omega)).mono ?_
    rintro e w' ⟨rfl, h⟩
    exact ⟨rfl, _, h⟩
end
end Go.Proofs.Ytddnjlnhnnpgiaa

namespace Go.Proofs.Ytddnjlnhnnpgiaa
set_option maxRecDepth 20000
open Go.RowKit

/-- A device beside rows X. -/
def Dlx (X : Nat → Prop) (w W : World) (B g M : Nat) (d : Dv) : Prop :=
  ∃ N : Nat → Prop, Own W B g N M d ∧ (∀ i, N i → w.heap.size ≤ i ∧ ¬ X i) ∧ (∀ i, X i → i < W.heap.size) ∧ Below w.heap.size w W
/-- A twin on a device beside rows X. -/
def Tlx (X : Nat → Prop) (w W : World) (B g T M : Nat) (d : Dv) (t : Tv) : Prop :=
  ∃ N : Nat → Prop, Own W B g N M d ∧ Tw W T (some ⟨g, 0, none⟩) t ∧ ¬ N T ∧ (∀ i, N i → w.heap.size ≤ i ∧ ¬ X i) ∧ (w.heap.size ≤ T ∧ ¬ X T) ∧ (∀ i, X i → i < W.heap.size) ∧ Below w.heap.size w W
/-- What may turn. -/
def Off (X : Nat → Prop) (w : World) (i : Nat) : Prop := w.heap.size ≤ i ∧ ¬ X i
section
variable {X X' : Nat → Prop} {w W W' : World} {B g T M M' : Nat} {d d' : Dv} {t : Tv}
theorem Tlx.tl (h : Tlx X w W B g T M d t) : Tl w W B g T M d t := by
  obtain ⟨N, h1, h2, h3, h4, h5, _, h7⟩ := h
  exact ⟨N, h1, h2, h3, fun i hi => (h4 i hi).1, h5.1, h7⟩
theorem Tlx.tw (h : Tlx X w W B g T M d t) : Tw W T (some ⟨g, 0, none⟩) t := h.tl.tw
theorem Tlx.bel (h : Tlx X w W B g T M d t) : Below w.heap.size w W := h.tl.bel
theorem Dlx.bel (h : Dlx X w W B g M d) : Below w.heap.size w W := by obtain ⟨N, _, _, _, h⟩ := h; exact h
theorem Dlx.ok (h : Dlx X w W B g M d) : d.Ok := by obtain ⟨N, h, _⟩ := h; exact h.ok
theorem Tlx.dlx (h : Tlx X w W B g T M d t) : Dlx X w W B g M d := by
  obtain ⟨N, h1, h2, h3, h4, h5, h6, h7⟩ := h
  exact ⟨N, h1, h4, h6, h7⟩
theorem Tlx.ok (h : Tlx X w W B g T M d t) : d.Ok := h.dlx.ok
theorem Dlx.dl (h : Dlx X w W B g M d) : Dl w W B g M d := by
  obtain ⟨N, h1, h4, h6, h7⟩ := h
  exact ⟨N, h1, fun i hi => (h4 i hi).1, h7⟩
/-- Rows that are new, or are of X, may be X then. -/
theorem Tl.tlx (h : Tl w W B g T M d t) (hb : Below W.heap.size W W') (hX : ∀ i, X i → W.heap.size ≤ i ∧ i < W'.heap.size) : Tlx X w W' B g T M d t := by
  obtain ⟨N, h1, h2, h3, h4, h5, h6⟩ := h
  refine ⟨fun i => N i ∧ i < W.heap.size, (h1.mono (Nat.le_refl _) (fun i hi hn => ⟨hn, hi⟩)).below hb, h2.below hb, fun h => h3 h.1, fun i hi => ⟨h4 i hi.1, fun hx => ?_⟩, ⟨h5, fun hx => ?_⟩, fun i hi => (hX i hi).2, h6.trans (hb.mono h6.size)⟩
  · have := (hX i hx).1
    have := hi.2
    omega
  · have := (hX T hx).1
    have := h2.lt
    omega
theorem Dl.dlx (h : Dl w W B g M d) (hb : Below W.heap.size W W') (hX : ∀ i, X i → W.heap.size ≤ i ∧ i < W'.heap.size) : Dlx X w W' B g M d := by
  obtain ⟨N, h1, h4, h6⟩ := h
  refine ⟨fun i => N i ∧ i < W.heap.size, (h1.mono (Nat.le_refl _) (fun i hi hn => ⟨hn, hi⟩)).below hb, fun i hi => ⟨h4 i hi.1, fun hx => ?_⟩, fun i hi => (hX i hi).2, h6.trans (hb.mono h6.size)⟩
  have := (hX i hx).1
  have := hi.2
  omega
theorem Tlx.more (h : Tlx X w W B g T M d t) (hb : Below W.heap.size W W') (hX : ∀ i, X' i → (X i ∨ W.heap.size ≤ i) ∧ i < W'.heap.size) : Tlx X' w W' B g T M d t := by
  obtain ⟨N, h1, h2, h3, h4, h5, h6, h7⟩ := h
  refine ⟨fun i => N i ∧ i < W.heap.size, (h1.mono (Nat.le_refl _) (fun i hi hn => ⟨hn, hi⟩)).below hb, h2.below hb, fun h => h3 h.1, fun i hi => ⟨(h4 i hi.1).1, fun hx => ?_⟩, ⟨h5.1, fun hx => ?_⟩, fun i hi => (hX i hi).2, h7.trans (hb.mono h7.size)⟩
  · rcases (hX i hx).1 with hh | hh
    · exact (h4 i hi.1).2 hh
    · have := hi.2
      omega
  · rcases (hX T hx).1 with hh | hh
    · exact h5.2 hh
    · have := h2.lt
      omega
theorem Tlx.below (h : Tlx X w W B g T M d t) (hb : Below W.heap.size W W') : Tlx X w W' B g T M d t := by
  obtain ⟨N, _, _, _, _, _, h6, _⟩ := id h
  exact h.more hb (fun i hi => ⟨.inl hi, Nat.lt_of_lt_of_le (h6 i hi) hb.size⟩)
theorem Dlx.below (h : Dlx X w W B g M d) (hb : Below W.heap.size W W') : Dlx X w W' B g M d := by
  obtain ⟨N, h1, h4, h6, h7⟩ := h
  exact ⟨N, h1.below hb, h4, fun i hi => Nat.lt_of_lt_of_le (h6 i hi) hb.size, h7.trans (hb.mono h7.size)⟩
theorem Tlx.le (h : Tlx X w W B g T M d t) (hM : M ≤ M') : Tlx X w W B g T M' d t := by
  obtain ⟨N, h1, h2⟩ := h
  exact ⟨N, h1.mono hM (fun i _ h => h), h2⟩
theorem Dlx.le (h : Dlx X w W B g M d) (hM : M ≤ M') : Dlx X w W B g M' d := by
  obtain ⟨N, h1, h2⟩ := h
  exact ⟨N, h1.mono hM (fun i _ h => h), h2⟩
/-- Rows of X may turn. -/
theorem Tlx.turn (h : Tlx X w W B g T M d t) (k : Keeps (fun i => X i ∧ w.heap.size ≤ i) W W') : Tlx X w W' B g T M d t := by
  obtain ⟨N, h1, h2, h3, h4, h5, h6, h7⟩ := h
  exact ⟨N, h1.keeps k (fun i hi _ hn => (h4 i hn).2 hi.1), k.row h2 (fun hi => h5.2 hi.1), h3, h4, h5, fun i hi => Nat.lt_of_lt_of_le (h6 i hi) k.size, h7.trans (k.below h7.size (fun i hi => hi.2))⟩
/-- A row of X, or one below, stays. -/
theorem off_row {i : Nat} (k : Keeps (Off X w) W W') (hi : i < W.heap.size) (hX : X i ∨ i < w.heap.size) : W'.heap[i]? = W.heap[i]? := k.block i hi (fun h => hX.elim h.2 (fun h2 => by have := h.1; omega))
theorem off_cell {i j : Nat} {v : Value} (k : Keeps (Off X w) W W') (hX : X i ∨ i < w.heap.size) (h : W.cell? ⟨i, j, none⟩ = some v) : W'.cell? ⟨i, j, none⟩ = some v := k.cell h (fun h => hX.elim h.2 (fun h2 => by have := h.1; omega))

theorem off_rd {sz n c : Nat} {A : Option Addr} {xs : List Value} (k : Keeps (Off X w) W W') (h : Rd W W.heap.size sz A n c xs) (hX : 0 < n → ∀ b o, A = some ⟨b, o, none⟩ → X b ∨ b < w.heap.size) : Rd W' W'.heap.size sz A n c xs :=
  (h.stayn' (fun h0 b o e hb => off_row k hb (hX h0 b o e))).more k.size
theorem tlx_fuse (h : Tlx X w W B g T M d t) (n : Int) (hn : Key n) :
    Calls Try.prog 20 #[.pointer (some ⟨g, 0, none⟩), .int .i64 n] W fun e w' => e = .returned (.tuple #[]) ∧ Tlx X w w' B g T M (d.fused n) t ∧ Keeps (Off X w) W w' := by
  obtain ⟨N, k1, k2, k3, k4, k5, k6, k7⟩ := h
  refine (own_fuse k1 n hn).mono ?_
  rintro e w' ⟨rfl, hL⟩
  have hk := hL.2
  refine ⟨rfl, ⟨_, hL.1, hk.row k2 k3, fun hi => hi.elim k3 (fun h => by have := k2.lt; omega), fun i hi => hi.elim (k4 i) (fun h => ⟨Nat.le_trans k7.size h, fun hx => by have := k6 i hx; omega⟩), k5, fun i hi => Nat.lt_of_lt_of_le (k6 i hi) hk.size, k7.trans (hk.below k7.size (fun i hi => (k4 i hi).1))⟩, hk.wide (fun i hi => k4 i hi)⟩
theorem dlx_crash (h : Dlx X w W B g M d) (hM : M ≤ 100000) (A : Option Addr) (n c : Nat) (ks : List Int) (hl : Rd W w.heap.size 1 A n c (ks.map (Value.int .i64))) (hn : n ≤ 1000000) :
    Calls Try.prog 17 #[.pointer (some ⟨g, 0, none⟩), .slice A n c] W fun e w' => e = .returned (.tuple #[]) ∧ Dlx X w w' B g (M + 16) (d.crash ks) ∧ Keeps (Off X w) W w' := by
  obtain ⟨N, k1, k4, k6, k7⟩ := h
  refine (own_crash k1 hM A n c ks (hl.more k7.size) hn (fun h0 b o e hb => ?_)).mono ?_
  · obtain ⟨b', o', e', hb', _⟩ := hl.2.2.2 h0
    rw [e] at e'
    cases e'
    have := (k4 _ hb).1
    omega
  · rintro e w' ⟨rfl, hL⟩
    have hk := hL.2
    exact ⟨rfl, ⟨_, hL.1, fun i hi => hi.elim (k4 i) (fun h => ⟨Nat.le_trans k7.size h, fun hx => by have := k6 i hx; omega⟩), fun i hi => Nat.lt_of_lt_of_le (k6 i hi) hk.size, k7.trans (hk.below k7.size (fun i hi => (k4 i hi).1))⟩, hk.wide (fun i hi => k4 i hi)⟩
theorem dlx_open (h : Dlx X w W B g M d) (hd : d.down = false) (base : Int) (size : Nat) (h1 : 1 ≤ size) (h2 : size ≤ 1000) (hb : 0 ≤ base) (hin : base + 2 * size ≤ d.n) :
    Calls Try.prog 10 #[.pointer (some ⟨g, 0, none⟩), .int .i64 base, .int .i64 (size : Int)] W fun e w' => ∃ T, e = .returned (.tuple #[.pointer (some ⟨T, 0, none⟩), .int .i64 0]) ∧ Tlx X w w' B g T M d (openTv base size (d.bytes base (2 * size))) ∧ Below W.heap.size W w' := by
  obtain ⟨N, k1, k4, k6, k7⟩ := h
  have hl := Dv.bytes_len k1.ok base (2 * size)
  have hr := own_read k1 hd base (2 * size) hb (by omega)
  rw [show 64 * (2 * size) = 128 * size by omega] at hr hl
  refine (twopen_ok ⟨g, 0, none⟩ base size (d.bytes base (2 * size)) h1 h2 hl hr).mono ?_
  rintro e w' ⟨T, rfl, hT, hTw, hbl⟩
  exact ⟨T, rfl, ⟨fun i => N i ∧ i < W.heap.size, (k1.mono (Nat.le_refl _) (fun i hi hn => ⟨hn, hi⟩)).below hbl, hTw, fun hi => by have := hi.2; omega, fun i hi => k4 i hi.1, ⟨Nat.le_trans k7.size hT, fun hx => by have := k6 T hx; omega⟩, fun i hi => Nat.lt_of_lt_of_le (k6 i hi) hbl.size, k7.trans (hbl.mono k7.size)⟩, hbl⟩
theorem tlx_save (h : Tlx X w W B g T M d t) (hM : M ≤ 90000)
    (A : Option Addr) (n c : Nat) (l : List UInt8) (hl : Rd W W.heap.size 1 A n c (u8s l)) (hn : n ≤ 3000) (hp0 : 0 ≤ t.place) (hp1 : t.place ≤ 1) (hb0 : 0 ≤ t.base) (hb1 : t.base ≤ 1000000) (hs0 : 0 ≤ t.size) (hs1 : t.size ≤ 1000)
    (hroom : n ≤ t.room) (hm0 : 0 < t.next) (hm : t.next < 18446744073709551616) (hin : t.base + 2 * t.size ≤ d.n) :
    Calls Try.prog 13 #[.pointer (some ⟨T, 0, none⟩), .slice A n c] W fun e w' => e = .returned (.int .i64 (d.save (t.base + t.free * t.size) t.next l).2)
      ∧ Tlx X w w' B g T (M + 80) (d.save (t.base + t.free * t.size) t.next l).1 (t.after l (d.save (t.base + t.free * t.size) t.next l).2) ∧ Keeps (Off X w) W w' := by
  obtain ⟨N, k1, k2, k3, k4, k5, k6, k7⟩ := h
  refine (twsave_ok k1 hM k2 k3 A n c l hl hn hp0 hp1 hb0 hb1 hs0 hs1 hroom hm0 hm hin).mono ?_
  rintro e w' ⟨rfl, hO, hT, hK⟩
  exact ⟨rfl, ⟨_, hO, hT, fun hi => hi.elim k3 (fun h => by have := k2.lt; omega), fun i hi => hi.elim (k4 i) (fun h => ⟨Nat.le_trans k7.size h, fun hx => by have := k6 i hx; omega⟩), k5, fun i hi => Nat.lt_of_lt_of_le (k6 i hi) hK.size, k7.trans (hK.below k7.size (fun i hi => hi.elim (fun h => (k4 i h).1) (fun h => h ▸ k5.1)))⟩, hK.wide (fun i hi => hi.elim (fun h => k4 i h) (fun h => h ▸ k5))⟩
theorem tlx_try (h : Tlx X w W B g T M d t) {base : Int} {size : Nat} (hst : Stands base size d t) (hM : M ≤ 90000) (hs2 : size ≤ 60) (hb0 : 0 ≤ base) (hx : t.next < 255) (hin : base + 2 * size ≤ d.n)
    (A : Option Addr) (n c : Nat) (l : List UInt8) (hl : Rd W W.heap.size 1 A n c (u8s l)) (hn : n ≤ 3000) :
    Calls Try.prog 13 #[.pointer (some ⟨T, 0, none⟩), .slice A n c] W fun e w' => e = .returned (.int .i64 (t.tried d l).2) ∧ (∃ t', Tlx X w w' B g T (M + 80) (t.tried d l).1 t') ∧ Keeps (Off X w) W w' := by
  have hln : l.length = n := by have := hl.len; rwa [u8s_len] at this
  have hts := hst.ts
  have htb := hst.tb
  have hok := hst.ok.n
  unfold Tv.tried
  by_cases hr : t.room < (l.length : Int)
  · rw [if_pos hr]
    refine (twsave_long h.tw (by omega) (by omega) A n c (by rw [← hln]; exact hr) (by unfold maxLen; omega)).mono ?_
    rintro e w' ⟨rfl, rfl⟩
    exact ⟨rfl, ⟨t, h.le (by omega)⟩, Keeps.refl _ _⟩
  · rw [if_neg hr]
    have hp := stands_place hst
    refine (tlx_save h hM A n c l hl hn hp.1 hp.2 (by omega) (by omega) (by omega) (by omega) (by rw [← hln]; omega) hst.next (by omega) (by omega)).mono ?_
    rintro e w' ⟨rfl, h, hk⟩
    exact ⟨rfl, ⟨_, h⟩, hk⟩
end
end Go.Proofs.Ytddnjlnhnnpgiaa
