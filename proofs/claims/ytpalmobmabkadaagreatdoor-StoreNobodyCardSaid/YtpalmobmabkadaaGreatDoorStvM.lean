/- The chapter's example of layer 8: what it comes to. A device and a twin on it, in memory of one's own; what each call leaves of them. A try of a twin: a save within which the power may go, a crash, and what is opened then. A device and a twin on it, beside rows X that no call of theirs turns. A store's row, what it tells of itself, and what it remembers as saved. -/
import Derived.Test.YtpalmobmabkadaaGreatDoorStandsM
import Derived.Test.YtpalmobmabkadaaGreatDoorStaM
import Derived.Test.YtpalmobmabkadaaGreatDoorStdM
import Derived.Shelf.SlMaps.Clone
namespace Go.Proofs.YtpalmobmabkadaaGreatDoor
set_option maxRecDepth 20000
open Go.RowKit

def xT0 : Tv := openTv 1 2 ((Dv.new 9).bytes 1 4)
theorem xT0_is : xT0 = ⟨1, 2, 0, 0, [], 1⟩ := by kernel_rfl
def xT1 : Tv := ⟨1, 2, 0, 1, [97], 2⟩
def xT2 : Tv := ⟨1, 2, 1, 2, [98], 3⟩
def xT3 : Tv := ⟨1, 2, 0, 3, [99], 4⟩
def xD1 : Dv := ((Dv.new 9).save 1 1 [97]).1
theorem xD1_e : ((Dv.new 9).save 1 1 [97]).2 = 0 := by kernel_rfl
theorem xD1_d : xD1.down = false := by kernel_rfl
def xD2 : Dv := (xD1.save 3 2 [98]).1
theorem xD2_e : (xD1.save 3 2 [98]).2 = 0 := by kernel_rfl
def xD3 : Dv := (xD2.save 1 3 [99]).1
theorem xD3_e : (xD2.save 1 3 [99]).2 = 0 := by kernel_rfl
theorem xD3_d : xD3.down = false := by kernel_rfl
theorem xD3_n : xD3.n = 9 := by kernel_rfl
theorem xT_is : openTv 1 2 (xD3.bytes 1 4) = xT3 := by kernel_rfl

end Go.Proofs.YtpalmobmabkadaaGreatDoor

namespace Go.Proofs.YtpalmobmabkadaaGreatDoor
set_option maxRecDepth 20000
open Go.RowKit

/-- A twin on a device. -/
def Tl (w W : World) (B g T M : Nat) (d : Dv) (t : Tv) : Prop :=
  ∃ N : Nat → Prop, Own W B g N M d ∧ Tw W T (some ⟨g, 0, none⟩) t ∧ ¬ N T ∧ (∀ i, N i → w.heap.size ≤ i) ∧ w.heap.size ≤ T ∧ Below w.heap.size w W
/-- A device alone. -/
def Dl (w W : World) (B g M : Nat) (d : Dv) : Prop := ∃ N : Nat → Prop, Own W B g N M d ∧ (∀ i, N i → w.heap.size ≤ i) ∧ Below w.heap.size w W
section
variable {w W W' : World} {B g T M M' : Nat} {d : Dv} {t : Tv}
theorem Tl.dl (h : Tl w W B g T M d t) : Dl w W B g M d := by
  obtain ⟨N, h1, _, _, h4, _, h6⟩ := h
  exact ⟨N, h1, h4, h6⟩
theorem Tl.tw (h : Tl w W B g T M d t) : Tw W T (some ⟨g, 0, none⟩) t := by obtain ⟨N, _, h2, _⟩ := h; exact h2
theorem Tl.bel (h : Tl w W B g T M d t) : Below w.heap.size w W := by obtain ⟨N, _, _, _, _, _, h6⟩ := h; exact h6
theorem Dl.bel (h : Dl w W B g M d) : Below w.heap.size w W := by obtain ⟨N, _, _, h⟩ := h; exact h
theorem Dl.below (h : Dl w W B g M d) (hb : Below W.heap.size W W') : Dl w W' B g M d := by
  obtain ⟨N, h1, h4, h6⟩ := h
  exact ⟨N, h1.below hb, h4, h6.trans (hb.mono h6.size)⟩
theorem Tl.below (h : Tl w W B g T M d t) (hb : Below W.heap.size W W') : Tl w W' B g T M d t := by
  obtain ⟨N, h1, h2, h3, h4, h5, h6⟩ := h
  exact ⟨N, h1.below hb, h2.below hb, h3, h4, h5, h6.trans (hb.mono h6.size)⟩
theorem Dl.more (h : Dl w W B g M d) (hM : M ≤ M') : Dl w W B g M' d := by
  obtain ⟨N, h1, h4, h6⟩ := h
  exact ⟨N, h1.mono hM (fun i _ h => h), h4, h6⟩
/-- What a call of the device leaves. -/
theorem Dl.left {N : Nat → Prop} (h4 : ∀ i, N i → w.heap.size ≤ i) (h6 : Below w.heap.size w W) {d' : Dv} (h : Left W B g N M' d' W') : Dl w W' B g M' d' :=
  ⟨_, h.1, fun i hi => hi.elim (h4 i) (fun h => Nat.le_trans h6.size h), h6.trans (h.2.below h6.size h4)⟩
theorem Tl.left {N : Nat → Prop} (h2 : Tw W T (some ⟨g, 0, none⟩) t) (h3 : ¬ N T) (h4 : ∀ i, N i → w.heap.size ≤ i) (h5 : w.heap.size ≤ T) (h6 : Below w.heap.size w W) {d' : Dv} (h : Left W B g N M' d' W') : Tl w W' B g T M' d' t :=
  ⟨_, h.1, h.2.row h2 h3, fun hi => hi.elim h3 (fun h => by have := h2.lt; omega), fun i hi => hi.elim (h4 i) (fun h => Nat.le_trans h6.size h), h5, h6.trans (h.2.below h6.size h4)⟩

theorem dl_open (h : Dl w W B g M d) (hd : d.down = false) (base : Int) (size : Nat) (h1 : 1 ≤ size) (h2 : size ≤ 1000) (hb : 0 ≤ base) (hin : base + 2 * size ≤ d.n) :
    Calls Tryz.prog 33 #[.pointer (some ⟨g, 0, none⟩), .int .i64 base, .int .i64 (size : Int)] W fun e w' => ∃ T, e = .returned (.tuple #[.pointer (some ⟨T, 0, none⟩), .int .i64 0]) ∧ Tl w w' B g T M d (openTv base size (d.bytes base (2 * size))) := by
  obtain ⟨N, k1, k4, k6⟩ := h
  have hl := Dv.bytes_len k1.ok base (2 * size)
  have hr := own_read k1 hd base (2 * size) hb (by omega)
  rw [show 64 * (2 * size) = 128 * size by omega] at hr hl
  refine (twopen_ok ⟨g, 0, none⟩ base size (d.bytes base (2 * size)) h1 h2 hl hr).mono ?_
  rintro e w' ⟨T, rfl, hT, hTw, hbl⟩
  exact ⟨T, rfl, fun i => N i ∧ i < W.heap.size, (k1.mono (Nat.le_refl _) (fun i hi hn => ⟨hn, hi⟩)).below hbl, hTw, fun hi => by have := hi.2; omega, fun i hi => k4 i hi.1, Nat.le_trans k6.size hT, k6.trans (hbl.mono k6.size)⟩
theorem tl_save (h : Tl w W B g T M d t) (hM : M ≤ 90000)
    (A : Option Addr) (n c : Nat) (l : List UInt8) (hl : Rd W W.heap.size 1 A n c (u8s l)) (hn : n ≤ 3000) (hp0 : 0 ≤ t.place) (hp1 : t.place ≤ 1) (hb0 : 0 ≤ t.base) (hb1 : t.base ≤ 1000000) (hs0 : 0 ≤ t.size) (hs1 : t.size ≤ 1000)
    (hroom : n ≤ t.room) (hm0 : 0 < t.next) (hm : t.next < 18446744073709551616) (hin : t.base + 2 * t.size ≤ d.n) :
    Calls Tryz.prog 60 #[.pointer (some ⟨T, 0, none⟩), .slice A n c] W fun e w' => e = .returned (.int .i64 (d.save (t.base + t.free * t.size) t.next l).2)
      ∧ Tl w w' B g T (M + 80) (d.save (t.base + t.free * t.size) t.next l).1 (t.after l (d.save (t.base + t.free * t.size) t.next l).2) := by
  obtain ⟨N, k1, k2, k3, k4, k5, k6⟩ := h
  refine (twsave_ok k1 hM k2 k3 A n c l hl hn hp0 hp1 hb0 hb1 hs0 hs1 hroom hm0 hm hin).mono ?_
  rintro e w' ⟨rfl, hO, hT, hK⟩
  exact ⟨rfl, _, hO, hT, fun hi => hi.elim k3 (fun h => by have := k2.lt; omega), fun i hi => hi.elim (k4 i) (fun h => Nat.le_trans k6.size h), k5, k6.trans (hK.below k6.size (fun i hi => hi.elim (k4 i) (fun h => h ▸ k5)))⟩
theorem tl_fuse (h : Tl w W B g T M d t) (n : Int) (hn : Key n) :
    Calls Tryz.prog 15 #[.pointer (some ⟨g, 0, none⟩), .int .i64 n] W fun e w' => e = .returned (.tuple #[]) ∧ Tl w w' B g T M (d.fused n) t := by
  obtain ⟨N, k1, k2, k3, k4, k5, k6⟩ := h
  refine (own_fuse k1 n hn).mono ?_
  rintro e w' ⟨rfl, hL⟩
  exact ⟨rfl, Tl.left k2 k3 k4 k5 k6 hL⟩
theorem dl_crash (h : Dl w W B g M d) (hM : M ≤ 100000) (A : Option Addr) (n c : Nat) (ks : List Int) (hl : Rd W w.heap.size 1 A n c (ks.map (Value.int .i64))) (hn : n ≤ 1000000) :
    Calls Tryz.prog 16 #[.pointer (some ⟨g, 0, none⟩), .slice A n c] W fun e w' => e = .returned (.tuple #[]) ∧ Dl w w' B g (M + 16) (d.crash ks) := by
  obtain ⟨N, k1, k4, k6⟩ := h
  refine (own_crash k1 hM A n c ks (hl.more k6.size) hn (fun h0 b o e hb => ?_)).mono ?_
  · obtain ⟨b', o', e', hb', _⟩ := hl.2.2.2 h0
    rw [e] at e'
    cases e'
    have := k4 _ hb
    omega
  · rintro e w' ⟨rfl, hL⟩
    exact ⟨rfl, Dl.left k4 k6 hL⟩
end

end Go.Proofs.YtpalmobmabkadaaGreatDoor

namespace Go.Proofs.YtpalmobmabkadaaGreatDoor
set_option maxRecDepth 20000
open Go.RowKit

theorem stands_fused {base : Int} {size : Nat} {d : Dv} {t : Tv} (h : Stands base size d t) (n : Int) (hn : Key n) : Stands base size (d.fused n) t := by
  refine ⟨⟨h.ok.n, h.ok.S, h.ok.ws, ?_⟩, h.calm, h.tb, h.ts, h.next, h.ends, ?_⟩
  · unfold Dv.fused
    dsimp only
    have := hn
    unfold Key at this
    split <;> omega
  · rw [h.best]
    congr 1
    exact bytes_same (d.fused n) d _ _ (fun _ _ => rfl)
/-- A crash of a calm device. -/
theorem stands_calm {base : Int} {size : Nat} {d : Dv} {t : Tv} (h : Stands base size d t) (hx : t.next < 256) (ks : List Int) (d' : Dv) (hd' : d' = d.crash ks) :
    Stands base size d' (openTv base size (d'.bytes base (2 * size))) ∧ d'.down = false ∧ d'.fuse = 0 ∧ d'.n = d.n ∧ (openTv base size (d'.bytes base (2 * size))).next ≤ t.next ∧ (openTv base size (d'.bytes base (2 * size))).number = t.number ∧ (openTv base size (d'.bytes base (2 * size))).text = t.text := by
  have hn : d'.n = d.n := by rw [hd']; exact (Dv.crash1_ws d ks d.ws.length).2.1
  have hS : d'.S = d.S := by rw [hd']; unfold Dv.crash; rw [h.calm]; rfl
  have hw : d'.ws = [] := by rw [hd']; rfl
  have hf : d'.fuse = 0 := by rw [hd']; rfl
  have ho : d'.Ok := ⟨by rw [hn]; exact h.ok.n, by rw [hS]; exact h.ok.S, (fun p hp => by rw [hw] at hp; cases hp), by rw [hf]; decide⟩
  have hb : d'.bytes base (2 * size) = d.bytes base (2 * size) := bytes_same d d' _ _ (fun i hi => by rw [seen_calm d' hw, seen_calm d h.calm, hS])
  have hx0 := h.next
  obtain ⟨s1, s2⟩ := stands_open (base := base) (size := size) ho hw (t.next - 1) (by omega) (fun i hi => by rw [hS]; exact h.ends i hi)
  have e := h.best
  rw [← hb] at e
  refine ⟨s1, by rw [hd']; rfl, hf, hn, by omega, ?_⟩
  exact ⟨(Prod.mk.inj (Prod.mk.inj e).2).1.symm, (Prod.mk.inj (Prod.mk.inj e).2).2.symm⟩

/-- What is told of a save, and what becomes of the device. -/
def Tv.tried (t : Tv) (d : Dv) (l : List UInt8) : Dv × Int := if t.room < (l.length : Int) then (d, 11) else d.save (t.base + t.free * t.size) t.next l
/-- Behind a try what was saved last is what it was, or what was to be saved. -/
theorem try_pure {base : Int} {size : Nat} {d : Dv} {t : Tv} (h : Stands base size d t) (hd : d.down = false) (hs : 0 < size) (hs2 : size ≤ 60) (hx : t.next < 255) (l : List UInt8) (ks : List Int) (d2 : Dv) (hd2 : d2 = (t.tried d l).1.crash ks) (t2 : Tv) (ht2 : t2 = openTv base size (d2.bytes base (2 * size))) :
    Stands base size d2 t2 ∧ d2.down = false ∧ d2.n = d.n ∧ t2.next ≤ t.next + 1
    ∧ (((t.tried d l).2 = 0 ∧ 0 < t2.number ∧ t2.text = l) ∨ (((t.tried d l).2 = 50 ∨ (t.tried d l).2 = 11) ∧ t2.number = t.number ∧ t2.text = t.text) ∨ ((t.tried d l).2 = 50 ∧ 0 < t2.number ∧ t2.text = l)) := by
  unfold Tv.tried at hd2 ⊢
  by_cases hr : t.room < (l.length : Int)
  · rw [if_pos hr] at hd2 ⊢
    obtain ⟨s1, s2, s3, s4, s5, s6, s7⟩ := stands_calm h (by omega) ks d2 hd2
    rw [← ht2] at s1 s5 s6 s7
    exact ⟨s1, s2, s4, by omega, .inr (.inl ⟨.inr rfl, s6, s7⟩)⟩
  · rw [if_neg hr] at hd2 ⊢
    have hts := h.ts
    have hl : l.length ≤ 65536 ∧ (l.length : Int) ≤ size * 48 - 8 := by
      unfold Tv.room at hr
      rw [hts] at hr
      omega
    have hK : sectorsOf l.length ≤ size := by
      rw [sectorsOf_at _ hl.1]
      omega
    obtain ⟨s1, s2, s3, s4, s5, s6, s7⟩ := stands_crash h hd hs l hl.1 hK hx ks d2 hd2
    rw [← ht2] at s1 s5 s6 s7
    refine ⟨s1, s2, s4, s5, ?_⟩
    have hx0 := h.next
    rcases Dv.save_pw d (t.base + t.free * t.size) t.next l with he | he
    · left
      have := s7 he
      exact ⟨he, by omega, this.2⟩
    · right
      rcases s6 with s6 | s6
      · exact .inl ⟨.inl he, s6⟩
      · exact .inr ⟨he, by omega, s6.2⟩
theorem stands_zero {base : Int} {size : Nat} {d : Dv} {t : Tv} (h : Stands base size d t) (hn : t.number = 0) : t.text = [] := by
  have hb := h.is
  unfold bestOf at hb
  split at hb
  · rename_i h1
    have := (Prod.mk.inj (Prod.mk.inj hb).2).1
    omega
  · split at hb
    · rename_i h1
      have := (Prod.mk.inj (Prod.mk.inj hb).2).1
      omega
    · exact (Prod.mk.inj (Prod.mk.inj hb).2).2
theorem stands_place {base : Int} {size : Nat} {d : Dv} {t : Tv} (h : Stands base size d t) : 0 ≤ t.place ∧ t.place ≤ 1 := by
  have hb := h.is
  unfold bestOf at hb
  split at hb
  · have := (Prod.mk.inj hb).1
    omega
  · split at hb
    · have := (Prod.mk.inj hb).1
      omega
    · have := (Prod.mk.inj hb).1
      omega
/-- What was saved last, in memory of its own. -/
theorem twlast_far {w : World} {T : Nat} {g : Option Addr} {t : Tv} (h : Tw w T g t) (hn : 0 < t.number) (hl : t.text.length ≤ maxLen) : Calls Tryz.prog 37 #[.pointer (some ⟨T, 0, none⟩)] w fun e w' => ∃ A c, e = .returned (.tuple #[.slice A t.text.length c, .bool true]) ∧ Rd w' w'.heap.size 1 A t.text.length c (u8s t.text) ∧ (∀ b i, A = some ⟨b, i, none⟩ → w.heap.size ≤ b) ∧ Below w.heap.size w w' := by
  have hN := twnumber_any h
  have c5 := h.c5
  have q1 : ((t.number : Int) == 0) = false := by simp; omega
  have q2 : (t.number == 0) = false := by simp; omega
  generalize t.number = n at *
  generalize t.text = l at *
  have HN := Lib.hid hN
  have HL := Lib.hid hl
  clear hN h hn hl
  go_enter Tryz.func37, Tryz.ntmps37
  go_wp2_with (first
    | (go_at_call 73; refine HN.out.mono ?_; rintro e w1 ⟨rfl, rfl⟩)
    | (refine wpL_strb (o := ⟨some 12, _, _, _, _, _⟩) rfl (.tmp 11) _ _ rfl Tryz.underlying9 Tryz.underlying86 Tryz.underlying5 rfl HL.out ?_; intro W A cap hrd hfar hb)
    | fail)
  go_ret2
  exact ⟨A, cap, rfl, hrd, hfar, hb⟩
/-- What was saved last, whatever it is. -/
theorem twlast_all {w : World} {T : Nat} {g : Option Addr} {t : Tv} (h : Tw w T g t) (hz : t.number = 0 → t.text = []) (hl : t.text.length ≤ 65536) : Calls Tryz.prog 37 #[.pointer (some ⟨T, 0, none⟩)] w fun e w' => ∃ A c, e = .returned (.tuple #[.slice A t.text.length c, .bool (decide (0 < t.number))]) ∧ Rd w' w'.heap.size 1 A t.text.length c (u8s t.text) ∧ (∀ b i, A = some ⟨b, i, none⟩ → w.heap.size ≤ b) ∧ Below w.heap.size w w' := by
  by_cases hn : t.number = 0
  · refine (twlast_none h hn).mono ?_
    rintro e w' ⟨rfl, rfl⟩
    refine ⟨none, 0, ?_, ?_, (fun b i e => by cases e), Below.refl _ _⟩
    · rw [hz hn, hn]; rfl
    · rw [hz hn]; exact Rd.nil_
  · refine (twlast_far h (by omega) (by unfold maxLen; omega)).mono ?_
    rintro e w' ⟨A, c, rfl, hr, hf, hb⟩
    refine ⟨A, c, ?_, hr, hf, hb⟩
    rw [decide_eq_true (by omega : 0 < t.number)]
section
variable {w W : World} {B g T M : Nat} {d : Dv} {t : Tv}
theorem tl_try (h : Tl w W B g T M d t) {base : Int} {size : Nat} (hst : Stands base size d t) (hM : M ≤ 90000) (hs2 : size ≤ 60) (hb0 : 0 ≤ base) (hx : t.next < 255) (hin : base + 2 * size ≤ d.n)
    (A : Option Addr) (n c : Nat) (l : List UInt8) (hl : Rd W W.heap.size 1 A n c (u8s l)) (hn : n ≤ 3000) :
    Calls Tryz.prog 60 #[.pointer (some ⟨T, 0, none⟩), .slice A n c] W fun e w' => e = .returned (.int .i64 (t.tried d l).2) ∧ ∃ t', Tl w w' B g T (M + 80) (t.tried d l).1 t' := by
  have hln : l.length = n := by have := hl.len; rwa [u8s_len] at this
  have hts := hst.ts
  have htb := hst.tb
  have hok := hst.ok.n
  unfold Tv.tried
  by_cases hr : t.room < (l.length : Int)
  · rw [if_pos hr]
    refine (twsave_long h.tw (by omega) (by omega) A n c (by rw [← hln]; exact hr) (by unfold maxLen; omega)).mono ?_
    rintro e w' ⟨rfl, rfl⟩
    obtain ⟨N, h1, h2, h3, h4, h5, h6⟩ := h
    exact ⟨rfl, t, N, h1.mono (by omega) (fun i _ h => h), h2, h3, h4, h5, h6⟩
  · rw [if_neg hr]
    have hp := stands_place hst
    refine (tl_save h hM A n c l hl hn hp.1 hp.2 (by omega) (by omega) (by omega) (by omega) (by rw [← hln]; omega) hst.next (by omega) (by omega)).mono ?_
    rintro e w' ⟨rfl, h⟩
    exact ⟨rfl, _, h⟩
end
end Go.Proofs.YtpalmobmabkadaaGreatDoor

namespace Go.Proofs.YtpalmobmabkadaaGreatDoor
set_option maxRecDepth 20000
open Go.RowKit

/-- A device beside rows X. -/
def Dlx (X : Nat → Prop) (w W : World) (B g M : Nat) (d : Dv) : Prop :=
  ∃ N : Nat → Prop, Own W B g N M d ∧ (∀ i, N i → w.heap.size ≤ i ∧ ¬ X i) ∧ (∀ i, X i → i < W.heap.size) ∧ Below w.heap.size w W
/-- A twin on a device beside rows X. -/
def Tlx (X : Nat → Prop) (w W : World) (B g T M : Nat) (d : Dv) (t : Tv) : Prop :=
  ∃ N : Nat → Prop, Own W B g N M d ∧ Tw W T (some ⟨g, 0, none⟩) t ∧ ¬ N T ∧ (∀ i, N i → w.heap.size ≤ i ∧ ¬ X i) ∧ (w.heap.size ≤ T ∧ ¬ X T) ∧ (∀ i, X i → i < W.heap.size) ∧ Below w.heap.size w W
/-- What may turn. -/
def Off (X : Nat → Prop) (w : World) (i : Nat) : Prop := w.heap.size ≤ i ∧ ¬ X i
section
variable {X X' : Nat → Prop} {w W W' : World} {B g T M M' : Nat} {d d' : Dv} {t : Tv}
theorem Tlx.tl (h : Tlx X w W B g T M d t) : Tl w W B g T M d t := by
  obtain ⟨N, h1, h2, h3, h4, h5, _, h7⟩ := h
  exact ⟨N, h1, h2, h3, fun i hi => (h4 i hi).1, h5.1, h7⟩
theorem Tlx.tw (h : Tlx X w W B g T M d t) : Tw W T (some ⟨g, 0, none⟩) t := h.tl.tw
theorem Tlx.bel (h : Tlx X w W B g T M d t) : Below w.heap.size w W := h.tl.bel
theorem Dlx.bel (h : Dlx X w W B g M d) : Below w.heap.size w W := by obtain ⟨N, _, _, _, h⟩ := h; exact h
theorem Dlx.ok (h : Dlx X w W B g M d) : d.Ok := by obtain ⟨N, h, _⟩ := h; exact h.ok
theorem Tlx.dlx (h : Tlx X w W B g T M d t) : Dlx X w W B g M d := by
  obtain ⟨N, h1, h2, h3, h4, h5, h6, h7⟩ := h
  exact ⟨N, h1, h4, h6, h7⟩
theorem Tlx.ok (h : Tlx X w W B g T M d t) : d.Ok := h.dlx.ok
theorem Dlx.dl (h : Dlx X w W B g M d) : Dl w W B g M d := by
  obtain ⟨N, h1, h4, h6, h7⟩ := h
  exact ⟨N, h1, fun i hi => (h4 i hi).1, h7⟩
/-- Rows that are new, or are of X, may be X then. -/
theorem Tl.tlx (h : Tl w W B g T M d t) (hb : Below W.heap.size W W') (hX : ∀ i, X i → W.heap.size ≤ i ∧ i < W'.heap.size) : Tlx X w W' B g T M d t := by
  obtain ⟨N, h1, h2, h3, h4, h5, h6⟩ := h
  refine ⟨fun i => N i ∧ i < W.heap.size, (h1.mono (Nat.le_refl _) (fun i hi hn => ⟨hn, hi⟩)).below hb, h2.below hb, fun h => h3 h.1, fun i hi => ⟨h4 i hi.1, fun hx => ?_⟩, ⟨h5, fun hx => ?_⟩, fun i hi => (hX i hi).2, h6.trans (hb.mono h6.size)⟩
  · have := (hX i hx).1
    have := hi.2
    omega
  · have := (hX T hx).1
    have := h2.lt
    omega
theorem Dl.dlx (h : Dl w W B g M d) (hb : Below W.heap.size W W') (hX : ∀ i, X i → W.heap.size ≤ i ∧ i < W'.heap.size) : Dlx X w W' B g M d := by
  obtain ⟨N, h1, h4, h6⟩ := h
  refine ⟨fun i => N i ∧ i < W.heap.size, (h1.mono (Nat.le_refl _) (fun i hi hn => ⟨hn, hi⟩)).below hb, fun i hi => ⟨h4 i hi.1, fun hx => ?_⟩, fun i hi => (hX i hi).2, h6.trans (hb.mono h6.size)⟩
  have := (hX i hx).1
  have := hi.2
  omega
theorem Tlx.more (h : Tlx X w W B g T M d t) (hb : Below W.heap.size W W') (hX : ∀ i, X' i → (X i ∨ W.heap.size ≤ i) ∧ i < W'.heap.size) : Tlx X' w W' B g T M d t := by
  obtain ⟨N, h1, h2, h3, h4, h5, h6, h7⟩ := h
  refine ⟨fun i => N i ∧ i < W.heap.size, (h1.mono (Nat.le_refl _) (fun i hi hn => ⟨hn, hi⟩)).below hb, h2.below hb, fun h => h3 h.1, fun i hi => ⟨(h4 i hi.1).1, fun hx => ?_⟩, ⟨h5.1, fun hx => ?_⟩, fun i hi => (hX i hi).2, h7.trans (hb.mono h7.size)⟩
  · rcases (hX i hx).1 with hh | hh
    · exact (h4 i hi.1).2 hh
    · have := hi.2
      omega
  · rcases (hX T hx).1 with hh | hh
    · exact h5.2 hh
    · have := h2.lt
      omega
theorem Tlx.below (h : Tlx X w W B g T M d t) (hb : Below W.heap.size W W') : Tlx X w W' B g T M d t := by
  obtain ⟨N, _, _, _, _, _, h6, _⟩ := id h
  exact h.more hb (fun i hi => ⟨.inl hi, Nat.lt_of_lt_of_le (h6 i hi) hb.size⟩)
theorem Dlx.below (h : Dlx X w W B g M d) (hb : Below W.heap.size W W') : Dlx X w W' B g M d := by
  obtain ⟨N, h1, h4, h6, h7⟩ := h
  exact ⟨N, h1.below hb, h4, fun i hi => Nat.lt_of_lt_of_le (h6 i hi) hb.size, h7.trans (hb.mono h7.size)⟩
theorem Tlx.le (h : Tlx X w W B g T M d t) (hM : M ≤ M') : Tlx X w W B g T M' d t := by
  obtain ⟨N, h1, h2⟩ := h
  exact ⟨N, h1.mono hM (fun i _ h => h), h2⟩
theorem Dlx.le (h : Dlx X w W B g M d) (hM : M ≤ M') : Dlx X w W B g M' d := by
  obtain ⟨N, h1, h2⟩ := h
  exact ⟨N, h1.mono hM (fun i _ h => h), h2⟩
/-- Rows of X may turn. -/
theorem Tlx.turn (h : Tlx X w W B g T M d t) (k : Keeps (fun i => X i ∧ w.heap.size ≤ i) W W') : Tlx X w W' B g T M d t := by
  obtain ⟨N, h1, h2, h3, h4, h5, h6, h7⟩ := h
  exact ⟨N, h1.keeps k (fun i hi _ hn => (h4 i hn).2 hi.1), k.row h2 (fun hi => h5.2 hi.1), h3, h4, h5, fun i hi => Nat.lt_of_lt_of_le (h6 i hi) k.size, h7.trans (k.below h7.size (fun i hi => hi.2))⟩
/-- A row of X, or one below, stays. -/
theorem off_row {i : Nat} (k : Keeps (Off X w) W W') (hi : i < W.heap.size) (hX : X i ∨ i < w.heap.size) : W'.heap[i]? = W.heap[i]? := k.block i hi (fun h => hX.elim h.2 (fun h2 => by have := h.1; omega))
theorem off_cell {i j : Nat} {v : Value} (k : Keeps (Off X w) W W') (hX : X i ∨ i < w.heap.size) (h : W.cell? ⟨i, j, none⟩ = some v) : W'.cell? ⟨i, j, none⟩ = some v := k.cell h (fun h => hX.elim h.2 (fun h2 => by have := h.1; omega))

theorem off_rd {sz n c : Nat} {A : Option Addr} {xs : List Value} (k : Keeps (Off X w) W W') (h : Rd W W.heap.size sz A n c xs) (hX : 0 < n → ∀ b o, A = some ⟨b, o, none⟩ → X b ∨ b < w.heap.size) : Rd W' W'.heap.size sz A n c xs :=
  (h.stayn' (fun h0 b o e hb => off_row k hb (hX h0 b o e))).more k.size
theorem tlx_fuse (h : Tlx X w W B g T M d t) (n : Int) (hn : Key n) :
    Calls Tryz.prog 15 #[.pointer (some ⟨g, 0, none⟩), .int .i64 n] W fun e w' => e = .returned (.tuple #[]) ∧ Tlx X w w' B g T M (d.fused n) t ∧ Keeps (Off X w) W w' := by
  obtain ⟨N, k1, k2, k3, k4, k5, k6, k7⟩ := h
  refine (own_fuse k1 n hn).mono ?_
  rintro e w' ⟨rfl, hL⟩
  have hk := hL.2
  refine ⟨rfl, ⟨_, hL.1, hk.row k2 k3, fun hi => hi.elim k3 (fun h => by have := k2.lt; omega), fun i hi => hi.elim (k4 i) (fun h => ⟨Nat.le_trans k7.size h, fun hx => by have := k6 i hx; omega⟩), k5, fun i hi => Nat.lt_of_lt_of_le (k6 i hi) hk.size, k7.trans (hk.below k7.size (fun i hi => (k4 i hi).1))⟩, hk.wide (fun i hi => k4 i hi)⟩
theorem dlx_crash (h : Dlx X w W B g M d) (hM : M ≤ 100000) (A : Option Addr) (n c : Nat) (ks : List Int) (hl : Rd W w.heap.size 1 A n c (ks.map (Value.int .i64))) (hn : n ≤ 1000000) :
    Calls Tryz.prog 16 #[.pointer (some ⟨g, 0, none⟩), .slice A n c] W fun e w' => e = .returned (.tuple #[]) ∧ Dlx X w w' B g (M + 16) (d.crash ks) ∧ Keeps (Off X w) W w' := by
  obtain ⟨N, k1, k4, k6, k7⟩ := h
  refine (own_crash k1 hM A n c ks (hl.more k7.size) hn (fun h0 b o e hb => ?_)).mono ?_
  · obtain ⟨b', o', e', hb', _⟩ := hl.2.2.2 h0
    rw [e] at e'
    cases e'
    have := (k4 _ hb).1
    omega
  · rintro e w' ⟨rfl, hL⟩
    have hk := hL.2
    exact ⟨rfl, ⟨_, hL.1, fun i hi => hi.elim (k4 i) (fun h => ⟨Nat.le_trans k7.size h, fun hx => by have := k6 i hx; omega⟩), fun i hi => Nat.lt_of_lt_of_le (k6 i hi) hk.size, k7.trans (hk.below k7.size (fun i hi => (k4 i hi).1))⟩, hk.wide (fun i hi => k4 i hi)⟩
theorem dlx_open (h : Dlx X w W B g M d) (hd : d.down = false) (base : Int) (size : Nat) (h1 : 1 ≤ size) (h2 : size ≤ 1000) (hb : 0 ≤ base) (hin : base + 2 * size ≤ d.n) :
    Calls Tryz.prog 33 #[.pointer (some ⟨g, 0, none⟩), .int .i64 base, .int .i64 (size : Int)] W fun e w' => ∃ T, e = .returned (.tuple #[.pointer (some ⟨T, 0, none⟩), .int .i64 0]) ∧ Tlx X w w' B g T M d (openTv base size (d.bytes base (2 * size))) ∧ Below W.heap.size W w' := by
  obtain ⟨N, k1, k4, k6, k7⟩ := h
  have hl := Dv.bytes_len k1.ok base (2 * size)
  have hr := own_read k1 hd base (2 * size) hb (by omega)
  rw [show 64 * (2 * size) = 128 * size by omega] at hr hl
  refine (twopen_ok ⟨g, 0, none⟩ base size (d.bytes base (2 * size)) h1 h2 hl hr).mono ?_
  rintro e w' ⟨T, rfl, hT, hTw, hbl⟩
  exact ⟨T, rfl, ⟨fun i => N i ∧ i < W.heap.size, (k1.mono (Nat.le_refl _) (fun i hi hn => ⟨hn, hi⟩)).below hbl, hTw, fun hi => by have := hi.2; omega, fun i hi => k4 i hi.1, ⟨Nat.le_trans k7.size hT, fun hx => by have := k6 T hx; omega⟩, fun i hi => Nat.lt_of_lt_of_le (k6 i hi) hbl.size, k7.trans (hbl.mono k7.size)⟩, hbl⟩
theorem tlx_save (h : Tlx X w W B g T M d t) (hM : M ≤ 90000)
    (A : Option Addr) (n c : Nat) (l : List UInt8) (hl : Rd W W.heap.size 1 A n c (u8s l)) (hn : n ≤ 3000) (hp0 : 0 ≤ t.place) (hp1 : t.place ≤ 1) (hb0 : 0 ≤ t.base) (hb1 : t.base ≤ 1000000) (hs0 : 0 ≤ t.size) (hs1 : t.size ≤ 1000)
    (hroom : n ≤ t.room) (hm0 : 0 < t.next) (hm : t.next < 18446744073709551616) (hin : t.base + 2 * t.size ≤ d.n) :
    Calls Tryz.prog 60 #[.pointer (some ⟨T, 0, none⟩), .slice A n c] W fun e w' => e = .returned (.int .i64 (d.save (t.base + t.free * t.size) t.next l).2)
      ∧ Tlx X w w' B g T (M + 80) (d.save (t.base + t.free * t.size) t.next l).1 (t.after l (d.save (t.base + t.free * t.size) t.next l).2) ∧ Keeps (Off X w) W w' := by
  obtain ⟨N, k1, k2, k3, k4, k5, k6, k7⟩ := h
  refine (twsave_ok k1 hM k2 k3 A n c l hl hn hp0 hp1 hb0 hb1 hs0 hs1 hroom hm0 hm hin).mono ?_
  rintro e w' ⟨rfl, hO, hT, hK⟩
  exact ⟨rfl, ⟨_, hO, hT, fun hi => hi.elim k3 (fun h => by have := k2.lt; omega), fun i hi => hi.elim (k4 i) (fun h => ⟨Nat.le_trans k7.size h, fun hx => by have := k6 i hx; omega⟩), k5, fun i hi => Nat.lt_of_lt_of_le (k6 i hi) hK.size, k7.trans (hK.below k7.size (fun i hi => hi.elim (fun h => (k4 i h).1) (fun h => h ▸ k5.1)))⟩, hK.wide (fun i hi => hi.elim (fun h => k4 i h) (fun h => h ▸ k5))⟩
theorem tlx_try (h : Tlx X w W B g T M d t) {base : Int} {size : Nat} (hst : Stands base size d t) (hM : M ≤ 90000) (hs2 : size ≤ 60) (hb0 : 0 ≤ base) (hx : t.next < 255) (hin : base + 2 * size ≤ d.n)
    (A : Option Addr) (n c : Nat) (l : List UInt8) (hl : Rd W W.heap.size 1 A n c (u8s l)) (hn : n ≤ 3000) :
    Calls Tryz.prog 60 #[.pointer (some ⟨T, 0, none⟩), .slice A n c] W fun e w' => e = .returned (.int .i64 (t.tried d l).2) ∧ (∃ t', Tlx X w w' B g T (M + 80) (t.tried d l).1 t') ∧ Keeps (Off X w) W w' := by
  have hln : l.length = n := by have := hl.len; rwa [u8s_len] at this
  have hts := hst.ts
  have htb := hst.tb
  have hok := hst.ok.n
  unfold Tv.tried
  by_cases hr : t.room < (l.length : Int)
  · rw [if_pos hr]
    refine (twsave_long h.tw (by omega) (by omega) A n c (by rw [← hln]; exact hr) (by unfold maxLen; omega)).mono ?_
    rintro e w' ⟨rfl, rfl⟩
    exact ⟨rfl, ⟨t, h.le (by omega)⟩, Keeps.refl _ _⟩
  · rw [if_neg hr]
    have hp := stands_place hst
    refine (tlx_save h hM A n c l hl hn hp.1 hp.2 (by omega) (by omega) (by omega) (by omega) (by rw [← hln]; omega) hst.next (by omega) (by omega)).mono ?_
    rintro e w' ⟨rfl, h, hk⟩
    exact ⟨rfl, ⟨_, h⟩, hk⟩
end
end Go.Proofs.YtpalmobmabkadaaGreatDoor

namespace Go.Proofs.YtpalmobmabkadaaGreatDoor
open Go.RowKit
set_option maxRecDepth 20000

/-- A store: the sector behind its twin, how many blocks, its marks, its requests, up to which all was saved. -/
structure Sv where
  first : Int
  n : Nat
  L : Nat
  B : Nat
  T : List Cl
  low : Nat
def scells (g T : Option Addr) (bn bs : Option Nat) (v : Sv) : List Value :=
  .pointer g :: .pointer T :: .int .i64 v.first :: .int .u32 (v.n : Int) :: .int .u64 (v.L : Int) :: .int .u64 (v.B : Int) :: (tcells v.T ++ [.map bn, .map bs, .int .u64 (v.low : Int)])
def Srow (w : World) (S : Nat) (g T : Option Addr) (bn bs : Option Nat) (v : Sv) : Prop := w.heap[S]? = some (.cells (scells g T bn bs v).toArray 72 (0, 0)) ∧ v.T.length = 8
section
variable {w w' : World} {S : Nat} {g T : Option Addr} {bn bs : Option Nat} {v : Sv}
theorem scells_len (h : v.T.length = 8) : (scells g T bn bs v).length = 25 := by simp [scells, tcells_len, h]
theorem scells_one : ∀ u ∈ scells g T bn bs v, u.oneCell' = true := by
  intro u hu
  simp only [scells, List.mem_cons, List.mem_append, List.not_mem_nil, or_false] at hu
  rcases hu with rfl | rfl | rfl | rfl | rfl | rfl | hu | rfl | rfl | rfl
  · rfl
  · rfl
  · rfl
  · rfl
  · rfl
  · rfl
  · exact tcells_one _ u hu
  · rfl
  · rfl
  · rfl
theorem scells_tail (h : v.T.length = 8) (k : Nat) (hk : k < 3) : (scells g T bn bs v)[22 + k]? = [Value.map bn, .map bs, .int .u64 (v.low : Int)][k]? := by
  have hl := tcells_len v.T
  rw [show 22 + k = 16 + k + 1 + 1 + 1 + 1 + 1 + 1 by omega]
  unfold scells
  simp only [List.getElem?_cons_succ]
  rw [List.getElem?_append_right (by omega)]
  congr 1
  omega
theorem Srow.lt (h : Srow w S g T bn bs v) : S < w.heap.size := (Array.getElem?_eq_some_iff.1 h.1).1
theorem Srow.c0 (h : Srow w S g T bn bs v) : w.cell? ⟨S, 0, none⟩ = some (.pointer g) := by rw [cell_of_row w S 0 _ _ _ h.1]; rfl
theorem Srow.c1 (h : Srow w S g T bn bs v) : w.cell? ⟨S, 1, none⟩ = some (.pointer T) := by rw [cell_of_row w S 1 _ _ _ h.1]; rfl
theorem Srow.c2 (h : Srow w S g T bn bs v) : w.cell? ⟨S, 2, none⟩ = some (.int .i64 v.first) := by rw [cell_of_row w S 2 _ _ _ h.1]; rfl
theorem Srow.c3 (h : Srow w S g T bn bs v) : w.cell? ⟨S, 3, none⟩ = some (.int .u32 (v.n : Int)) := by rw [cell_of_row w S 3 _ _ _ h.1]; rfl
theorem Srow.c4 (h : Srow w S g T bn bs v) : w.cell? ⟨S, 4, none⟩ = some (.int .u64 (v.L : Int)) := by rw [cell_of_row w S 4 _ _ _ h.1]; rfl
theorem Srow.c5 (h : Srow w S g T bn bs v) : w.cell? ⟨S, 5, none⟩ = some (.int .u64 (v.B : Int)) := by rw [cell_of_row w S 5 _ _ _ h.1]; rfl
theorem Srow.c22 (h : Srow w S g T bn bs v) : w.cell? ⟨S, 22, none⟩ = some (.map bn) := by rw [cell_of_row w S 22 _ _ _ h.1, List.getElem?_toArray]; exact scells_tail h.2 0 (by omega)
theorem Srow.c23 (h : Srow w S g T bn bs v) : w.cell? ⟨S, 23, none⟩ = some (.map bs) := by rw [cell_of_row w S 23 _ _ _ h.1, List.getElem?_toArray]; exact scells_tail h.2 1 (by omega)
theorem Srow.c24 (h : Srow w S g T bn bs v) : w.cell? ⟨S, 24, none⟩ = some (.int .u64 (v.low : Int)) := by rw [cell_of_row w S 24 _ _ _ h.1, List.getElem?_toArray]; exact scells_tail h.2 2 (by omega)
theorem Srow.free (h : Srow w S g T bn bs v) (i : Nat) : w.frozen? ⟨S, i, none⟩ = false := frozen_of_row w S i _ _ h.1
theorem Srow.kept {row : Option Nat} (h : Srow w S g T bn bs v) (hg : w.grownBy w' row) (hne : some S ≠ row) : Srow w' S g T bn bs v := ⟨row_far h.1 hg hne, h.2⟩
theorem Srow.below (h : Srow w S g T bn bs v) (hb : Below w.heap.size w w') : Srow w' S g T bn bs v := ⟨row_below h.1 hb, h.2⟩
theorem Srow.same (h : Srow w S g T bn bs v) (he : w'.heap[S]? = w.heap[S]?) : Srow w' S g T bn bs v := ⟨he.trans h.1, h.2⟩
theorem Srow.setSaved (h : Srow w S g T bn bs v) (bs' : Option Nat) : Srow (w.setCell ⟨S, 23, none⟩ (.map bs')) S g T bn bs' v := by
  refine ⟨?_, h.2⟩
  rw [heap_setCell_same w S 23 _ _ _ h.1]
  have hl := tcells_len v.T
  have h8 := h.2
  congr 2
  apply Array.ext'
  simp [scells]
  rw [List.set_append_right _ _ (by omega), show 17 - (tcells v.T).length = 1 by omega]
  rfl
theorem Srow.setLow (h : Srow w S g T bn bs v) (x : Nat) : Srow (w.setCell ⟨S, 24, none⟩ (.int .u64 (x : Int))) S g T bn bs { v with low := x } := by
  refine ⟨?_, h.2⟩
  rw [heap_setCell_same w S 24 _ _ _ h.1]
  have hl := tcells_len v.T
  have h8 := h.2
  congr 2
  apply Array.ext'
  simp [scells]
  rw [List.set_append_right _ _ (by omega), show 18 - (tcells v.T).length = 2 by omega]
  rfl
end

/-! ### What it tells of itself -/
theorem sopen_nil (w : World) : Calls Tryz.prog 48 #[.pointer none] w fun e w' => e = .returned (.bool false) ∧ w = w' := by
  go_enter Tryz.func48, Tryz.ntmps48
  go_wp2
  go_ret
  exact ⟨rfl, rfl⟩
theorem sopen_bare {w : World} {S : Nat} {T : Option Addr} {bn bs : Option Nat} {v : Sv} (h : Srow w S none T bn bs v) : Calls Tryz.prog 48 #[.pointer (some ⟨S, 0, none⟩)] w fun e w' => e = .returned (.bool false) ∧ w = w' := by
  have c0 := h.c0
  go_enter Tryz.func48, Tryz.ntmps48
  go_wp2
  go_ret
  exact ⟨rfl, rfl⟩
theorem sopen_any {w : World} {S : Nat} {a : Addr} {T : Option Addr} {bn bs : Option Nat} {v : Sv} (h : Srow w S (some a) T bn bs v) : Calls Tryz.prog 48 #[.pointer (some ⟨S, 0, none⟩)] w fun e w' => e = .returned (.bool true) ∧ w = w' := by
  have c0 := h.c0
  go_enter Tryz.func48, Tryz.ntmps48
  go_wp2
  go_ret
  exact ⟨rfl, rfl⟩
theorem sblocks_nil (w : World) : Calls Tryz.prog 23 #[.pointer none] w fun e w' => e = .returned (.int .u32 0) ∧ w = w' := by
  go_enter Tryz.func23, Tryz.ntmps23
  go_wp2
  go_ret
  exact ⟨rfl, rfl⟩
theorem sblocks_any {w : World} {S : Nat} {g T : Option Addr} {bn bs : Option Nat} {v : Sv} (h : Srow w S g T bn bs v) : Calls Tryz.prog 23 #[.pointer (some ⟨S, 0, none⟩)] w fun e w' => e = .returned (.int .u32 (v.n : Int)) ∧ w = w' := by
  have c3 := h.c3
  go_enter Tryz.func23, Tryz.ntmps23
  go_wp2
  go_ret
  exact ⟨rfl, rfl⟩
theorem ssaved_nil (w : World) : Calls Tryz.prog 24 #[.pointer none] w fun e w' => e = .returned (.int .u64 0) ∧ w = w' := by
  go_enter Tryz.func24, Tryz.ntmps24
  go_wp2
  go_ret
  exact ⟨rfl, rfl⟩
theorem ssaved_any {w : World} {S : Nat} {g T : Option Addr} {bn bs : Option Nat} {v : Sv} (h : Srow w S g T bn bs v) : Calls Tryz.prog 24 #[.pointer (some ⟨S, 0, none⟩)] w fun e w' => e = .returned (.int .u64 (v.low : Int)) ∧ w = w' := by
  have c24 := h.c24
  go_enter Tryz.func24, Tryz.ntmps24
  go_wp2
  go_ret
  exact ⟨rfl, rfl⟩

/-! ### Maps are cloned -/
set_option maxHeartbeats 2000000 in
theorem standsClone_any {w : World} {b : Nat} {es : Array MapEntry} {clock : Nat} (hb : w.heap[b]? = some (.map es clock)) :
    Calls Tryz.prog 64 #[.map (some b)] w fun e w' => e = .returned (.map (some w.heap.size)) ∧ w' = w.alloc (.map es clock) := by
  have hq := fun w => run_eql_map_nil_sl (P := Tryz.prog) w 70 _ _ (some b) Tryz.underlying70
  go_enter Tryz.func64, Tryz.ntmps64
  go_wp2
  rw [run_callFunc_extern Tryz.func103 (by kernel_rfl) (by kernel_rfl) (by kernel_rfl) (e := Extern.MapsClone.clone) (by kernel_rfl), run_maps_clone_sl w _ hb]
  simp only [Result.andThen]
  rw [Oper.upon_value]
  go_wp2
  rw [run_typeAssert_map_sl _ _ _ _ _ _ Tryz.underlying70]
  simp only [Result.andThen]
  rw [Oper.upon_value]
  go_wp2
  go_ret
  exact ⟨rfl, rfl⟩
abbrev St8 (w : World) (b n : Nat) (f : SaysS) : Prop := MapS Tryz.prog 23 w b n f
theorem clone_stands {w : World} {b n : Nat} {f : SaysS} (h : St8 w b n f) :
    Calls Tryz.prog 64 #[.map (some b)] w fun e w' => e = .returned (.map (some w.heap.size)) ∧ St8 w' w.heap.size n f ∧ Below w.heap.size w w' := by
  obtain ⟨D, ⟨es, clock, hb, F, hs, hD⟩, h2⟩ := h
  refine (standsClone_any hb).mono ?_
  rintro e w' ⟨rfl, rfl⟩
  exact ⟨rfl, ⟨D, ⟨es, clock, heap_alloc_new w _, F, hs, hD⟩, h2⟩, below1 _ _⟩

set_option maxHeartbeats 2000000 in
theorem keep16_any {w : World} {S bn n : Nat} {g T : Option Addr} {bs : Option Nat} {v : Sv} {f : SaysS} (h : Srow w S g T (some bn) bs v) (hm : St8 w bn n f) :
    Calls Tryz.prog 39 #[.pointer (some ⟨S, 0, none⟩)] w fun e w' => e = .returned (.tuple #[]) ∧ ∃ b', Srow w' S g T (some bn) (some b') { v with low := v.L } ∧ St8 w' b' n f ∧ w.heap.size ≤ b' ∧ w.grownBy w' (some S) := by
  have c22 := h.c22
  have c4 := h.c4
  have hS := h.lt
  have H := Lib.hid h
  have HM := Lib.hid hm
  clear h hm
  go_enter Tryz.func39, Tryz.ntmps39
  go_wp2_with (fail)
  refine wp_segs [([0, 1, 2, 3, 4, 5, 7, 8, 9, 10, 11], 6), ([12, 13], 14), ([15, 16], 17)] [] (fun x => x.cell? ⟨S, 22, none⟩ = some (.map (some bn)) ∧ x.cell? ⟨S, 4, none⟩ = some (.int .u64 (v.L : Int))) (by kernel_rfl) (by kernel_rfl) (fun d _ _ _ _ h => by cases d <;> exact h) ⟨c22, c4⟩ ?_
  generalize hwd : w.drew = wd at *
  have H0 : Hid (Srow wd S g T (some bn) bs v) := Lib.hid (by rw [← hwd]; exact H.out)
  have HM0 : Hid (St8 wd bn n f) := Lib.hid (by rw [← hwd]; exact HM.out.same rfl)
  have HG0 : Hid (w.grownBy wd (some S)) := Lib.hid (by rw [← hwd]; exact only_of_below (Below.refl _ _).drew _)
  clear hwd H HM c22 c4
  intro q hq
  have d22 := fun z => (hq z).1
  have d4 := fun z => (hq z).2
  simp only [pickI, Option.toList_some, List.cons_append, List.nil_append, List.getElem?_toArray, List.getElem?_cons_succ, List.getElem?_cons_zero]
  try go_frame
  go_big_quiet_step (fail)
  go_big_quiet_step (fail)
  go_big_quiet_step (fail)
  go_big_quiet_step (fail)
  go_big_quiet_step (fail)
  go_big_quiet_step (fail)
  go_big_quiet_step (fail)
  go_big_quiet_step (fail)
  go_big_quiet_step (fail)
  go_big_quiet_step (fail)
  go_big_quiet_step (fail)
  refine wpQuiet_nil ?_
  clear hq q d22 d4
  refine seg_op (by simp only [List.getElem?_toArray, List.getElem?_cons_succ, List.getElem?_cons_zero]; rfl) fun K hK => ?_
  go_simp
  refine (clone_stands HM0.out).mono ?_
  rintro e w1 ⟨rfl, hm1, hb1⟩
  obtain ⟨b1, hb1e⟩ : ∃ b1, b1 = wd.heap.size := ⟨_, rfl⟩
  rw [← hb1e] at hm1 ⊢
  have H1 := Lib.hid (H0.out.below hb1)
  have HM1 := Lib.hid hm1
  have HG1 := Lib.hid (grownBy_trans HG0.out (only_of_below hb1 (some S)) (.inl rfl))
  have hb1w : w.heap.size ≤ b1 := by rw [hb1e]; exact HG0.out.size
  have hne : S ≠ b1 := by have := H0.out.lt; omega
  refine hK.out _ _ (seg_keep ⟨H1.out.c22, H1.out.c4⟩ ?_)
  clear hK K hm1 hb1 hb1e H0 HM0 HG0
  intro q hq
  have d22 := fun z => (hq z).1
  have d4 := fun z => (hq z).2
  simp only [pickI, Option.toList_some, List.cons_append, List.nil_append, List.getElem?_toArray, List.getElem?_cons_succ, List.getElem?_cons_zero]
  try go_frame
  go_big_quiet_step (fail)
  go_big_quiet_step (fail)
  refine wpQuiet_nil ?_
  clear hq q d22 d4
  have k23 := H1.out.c23
  have f23 := H1.out.free 23
  refine seg_op (by simp only [List.getElem?_toArray, List.getElem?_cons_succ, List.getElem?_cons_zero]; rfl) fun K hK => ?_
  go_simp
  have H2 := Lib.hid (H1.out.setSaved (some b1))
  have hg2 : w1.grownBy (w1.setCell ⟨S, 23, none⟩ (.map (some b1))) (some S) := setCell_by (w' := w1) (p := ⟨S, 23, none⟩) (World.grownBy.refl w1 (some S)) rfl _
  have HM2 := Lib.hid (HM1.out.kept hg2 (fun e => hne (Option.some.inj e).symm))
  have HG2 := Lib.hid (only_trans HG1.out hg2)
  generalize w1.setCell ⟨S, 23, none⟩ (.map (some b1)) = w2 at *
  refine hK.out _ _ (seg_keep ⟨H2.out.c22, H2.out.c4⟩ ?_)
  clear hK K hg2 H1 HM1 HG1 k23 f23
  intro q hq
  have d22 := fun z => (hq z).1
  have d4 := fun z => (hq z).2
  simp only [pickI, Option.toList_some, List.cons_append, List.nil_append, List.getElem?_toArray, List.getElem?_cons_succ, List.getElem?_cons_zero]
  try go_frame
  go_big_quiet_step (fail)
  go_big_quiet_step (fail)
  refine wpQuiet_nil ?_
  clear hq q d22 d4
  have k24 := H2.out.c24
  have f24 := H2.out.free 24
  refine seg_op (by simp only [List.getElem?_toArray, List.getElem?_cons_succ, List.getElem?_cons_zero]; rfl) fun K hK => ?_
  go_simp
  have H3 := Lib.hid (H2.out.setLow v.L)
  have hg3 : w2.grownBy (w2.setCell ⟨S, 24, none⟩ (.int .u64 (v.L : Int))) (some S) := setCell_by (w' := w2) (p := ⟨S, 24, none⟩) (World.grownBy.refl w2 (some S)) rfl _
  have HM3 := Lib.hid (HM2.out.kept hg3 (fun e => hne (Option.some.inj e).symm))
  have HG3 := Lib.hid (only_trans HG2.out hg3)
  generalize w2.setCell ⟨S, 24, none⟩ (.int .u64 (v.L : Int)) = w3 at *
  refine hK.out _ _ (seg_keep ⟨H3.out.c22, H3.out.c4⟩ ?_)
  clear hK K hg3 H2 HM2 HG2 k24 f24
  intro q hq
  refine wpQuiet_nil ?_
  clear hq q
  go_wp2
  go_returns
  exact ⟨rfl, b1, H3.out, HM3.out, hb1w, HG3.out⟩

end Go.Proofs.YtpalmobmabkadaaGreatDoor
