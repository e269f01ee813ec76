/- The chapter's example of layer 8: what it comes to. A device and a twin on it, in memory of one's own; what each call leaves of them. -/
import Derived.Test.YtddnjlnhnnpgiaaTwbadZ
namespace Go.Proofs.Ytddnjlnhnnpgiaa
set_option maxRecDepth 20000
open Go.RowKit

def xT0 : Tv := openTv 1 2 ((Dv.new 9).bytes 1 4)
theorem xT0_is : xT0 = ⟨1, 2, 0, 0, [], 1⟩ := by kernel_rfl
def xT1 : Tv := ⟨1, 2, 0, 1, [97], 2⟩
def xT2 : Tv := ⟨1, 2, 1, 2, [98], 3⟩
def xT3 : Tv := ⟨1, 2, 0, 3, [99], 4⟩
def xD1 : Dv := ((Dv.new 9).save 1 1 [97]).1
theorem xD1_e : ((Dv.new 9).save 1 1 [97]).2 = 0 := by kernel_rfl
theorem xD1_d : xD1.down = false := by kernel_rfl
def xD2 : Dv := (xD1.save 3 2 [98]).1
theorem xD2_e : (xD1.save 3 2 [98]).2 = 0 := by kernel_rfl
def xD3 : Dv := (xD2.save 1 3 [99]).1
theorem xD3_e : (xD2.save 1 3 [99]).2 = 0 := by kernel_rfl
theorem xD3_d : xD3.down = false := by kernel_rfl
theorem xD3_n : xD3.n = 9 := by kernel_rfl
theorem xT_is : openTv 1 2 (xD3.bytes 1 4) = xT3 := by kernel_rfl

end Go.Proofs.Ytddnjlnhnnpgiaa

namespace Go.Proofs.Ytddnjlnhnnpgiaa
set_option maxRecDepth 20000
open Go.RowKit

/-- A twin on a device. -/
def Tl (w W : World) (B g T M : Nat) (d : Dv) (t : Tv) : Prop :=
  ∃ N : Nat → Prop, Own W B g N M d ∧ Tw W T (some ⟨g, 0, none⟩) t ∧ ¬ N T ∧ (∀ i, N i → w.heap.size ≤ i) ∧ w.heap.size ≤ T ∧ Below w.heap.size w W
/-- A device alone. -/
def Dl (w W : World) (B g M : Nat) (d : Dv) : Prop := ∃ N : Nat → Prop, Own W B g N M d ∧ (∀ i, N i → w.heap.size ≤ i) ∧ Below w.heap.size w W
section
variable {w W W' : World} {B g T M M' : Nat} {d : Dv} {t : Tv}
theorem Tl.dl (h : Tl w W B g T M d t) : Dl w W B g M d := by
  obtain ⟨N, h1, _, _, h4, _, h6⟩ := h
  exact ⟨N, h1, h4, h6⟩
theorem Tl.tw (h : Tl w W B g T M d t) : Tw W T (some ⟨g, 0, none⟩) t := by obtain ⟨N, _, h2, _⟩ := h; exact h2
theorem Tl.bel (h : Tl w W B g T M d t) : Below w.heap.size w W := by obtain ⟨N, _, _, _, _, _, h6⟩ := h; exact h6
theorem Dl.bel (h : Dl w W B g M d) : Below w.heap.size w W := by obtain ⟨N, _, _, h⟩ := h; exact h
theorem Dl.below (h : Dl w W B g M d) (hb : Below W.heap.size W W') : Dl w W' B g M d := by
  obtain ⟨N, h1, h4, h6⟩ := h
  exact ⟨N, h1.below hb, h4, h6.trans (hb.mono h6.size)⟩
theorem Tl.below (h : Tl w W B g T M d t) (hb : Below W.heap.size W W') : Tl w W' B g T M d t := by
  obtain ⟨N, h1, h2, h3, h4, h5, h6⟩ := h
  exact ⟨N, h1.below hb, h2.below hb, h3, h4, h5, h6.trans (hb.mono h6.size)⟩
theorem Dl.more (h : Dl w W B g M d) (hM : M ≤ M') : Dl w W B g M' d := by
  obtain ⟨N, h1, h4, h6⟩ := h
  exact ⟨N, h1.mono hM (fun i _ h => h), h4, h6⟩
/-- What a call of the device leaves. -/
theorem Dl.left {N : Nat → Prop} (h4 : ∀ i, N i → w.heap.size ≤ i) (h6 : Below w.heap.size w W) {d' : Dv} (h : Left W B g N M' d' W') : Dl w W' B g M' d' :=
  ⟨_, h.1, fun i hi => hi.elim (h4 i) (fun h => Nat.le_trans h6.size h), h6.trans (h.2.below h6.size h4)⟩
theorem Tl.left {N : Nat → Prop} (h2 : Tw W T (some ⟨g, 0, none⟩) t) (h3 : ¬ N T) (h4 : ∀ i, N i → w.heap.size ≤ i) (h5 : w.heap.size ≤ T) (h6 : Below w.heap.size w W) {d' : Dv} (h : Left W B g N M' d' W') : Tl w W' B g T M' d' t :=
  ⟨_, h.1, h.2.row h2 h3, fun hi => hi.elim h3 (fun h => by have := h2.lt; omega), fun i hi => hi.elim (h4 i) (fun h => Nat.le_trans h6.size h), h5, h6.trans (h.2.below h6.size h4)⟩

theorem dl_open (h : Dl w W B g M d) (hd : d.down = false) (base : Int) (size : Nat) (h1 : 1 ≤ size) (h2 : size ≤ 1000) (hb : 0 ≤ base) (hin : base + 2 * size ≤ d.n) :
    Calls Try.prog 10 #[.pointer (some ⟨g, 0, none⟩), .int .i64 base, .int .i64 (size : Int)] W fun e w' => ∃ T, e = .returned (.tuple #[.pointer (some ⟨T, 0, none⟩), .int .i64 0]) ∧ Tl w w' B g T M d (openTv base size (d.bytes base (2 * size))) := by
  obtain ⟨N, k1, k4, k6⟩ := h
  have hl := Dv.bytes_len k1.ok base (2 * size)
  have hr := own_read k1 hd base (2 * size) hb (by omega)
  rw [show 64 * (2 * size) = 128 * size by omega] at hr hl
  refine (twopen_ok ⟨g, 0, none⟩ base size (d.bytes base (2 * size)) h1 h2 hl hr).mono ?_
  rintro e w' ⟨T, rfl, hT, hTw, hbl⟩
  exact ⟨T, rfl, fun i => N i ∧ i < W.heap.size, (k1.mono (Nat.le_refl _) (fun i hi hn => ⟨hn, hi⟩)).below hbl, hTw, fun hi => by have := hi.2; omega, fun i hi => k4 i hi.1, Nat.le_trans k6.size hT, k6.trans (hbl.mono k6.size)⟩
theorem tl_save (h : Tl w W B g T M d t) (hM : M ≤ 90000)
    (A : Option Addr) (n c : Nat) (l : List UInt8) (hl : Rd W W.heap.size 1 A n c (u8s l)) (hn : n ≤ 3000) (hp0 : 0 ≤ t.place) (hp1 : t.place ≤ 1) (hb0 : 0 ≤ t.base) (hb1 : t.base ≤ 1000000) (hs0 : 0 ≤ t.size) (hs1 : t.size ≤ 1000)
    (hroom : n ≤ t.room) (hm0 : 0 < t.next) (hm : t.next < 18446744073709551616) (hin : t.base + 2 * t.size ≤ d.n) :
    Calls Try.prog 13 #[.pointer (some ⟨T, 0, none⟩), .slice A n c] W fun e w' => e = .returned (.int .i64 (d.save (t.base + t.free * t.size) t.next l).2)
      ∧ Tl w w' B g T (M + 80) (d.save (t.base + t.free * t.size) t.next l).1 (t.after l (d.save (t.base + t.free * t.size) t.next l).2) := by
  obtain ⟨N, k1, k2, k3, k4, k5, k6⟩ := h
  refine (twsave_ok k1 hM k2 k3 A n c l hl hn hp0 hp1 hb0 hb1 hs0 hs1 hroom hm0 hm hin).mono ?_
  rintro e w' ⟨rfl, hO, hT, hK⟩
  exact ⟨rfl, _, hO, hT, fun hi => hi.elim k3 (fun h => by have := k2.lt; omega), fun i hi => hi.elim (k4 i) (fun h => Nat.le_trans k6.size h), k5, k6.trans (hK.below k6.size (fun i hi => hi.elim (k4 i) (fun h => h ▸ k5)))⟩
theorem tl_fuse (h : Tl w W B g T M d t) (n : Int) (hn : Key n) :
    Calls Try.prog 20 #[.pointer (some ⟨g, 0, none⟩), .int .i64 n] W fun e w' => e = .returned (.tuple #[]) ∧ Tl w w' B g T M (d.fused n) t := by
  obtain ⟨N, k1, k2, k3, k4, k5, k6⟩ := h
  refine (own_fuse k1 n hn).mono ?_
  rintro e w' ⟨rfl, hL⟩
  exact ⟨rfl, Tl.left k2 k3 k4 k5 k6 hL⟩
theorem dl_crash (h : Dl w W B g M d) (hM : M ≤ 100000) (A : Option Addr) (n c : Nat) (ks : List Int) (hl : Rd W w.heap.size 1 A n c (ks.map (Value.int .i64))) (hn : n ≤ 1000000) :
    Calls Try.prog 17 #[.pointer (some ⟨g, 0, none⟩), .slice A n c] W fun e w' => e = .returned (.tuple #[]) ∧ Dl w w' B g (M + 16) (d.crash ks) := by
  obtain ⟨N, k1, k4, k6⟩ := h
  refine (own_crash k1 hM A n c ks (hl.more k6.size) hn (fun h0 b o e hb => ?_)).mono ?_
  · obtain ⟨b', o', e', hb', _⟩ := hl.2.2.2 h0
    rw [e] at e'
    cases e'
    have := k4 _ hb
    omega
  · rintro e w' ⟨rfl, hL⟩
    exact ⟨rfl, Dl.left k4 k6 hL⟩
end

end Go.Proofs.Ytddnjlnhnnpgiaa
