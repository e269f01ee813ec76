/- The reference's twin: its row, its Room, and what a save makes of both devices. The reference's twin: a save. -/
import Derived.Test.YtddnjlnhnnpgiaaSdo
import Derived.Test.YtddnjlnhnnpgiaaTwxZ
import Derived.Deep.DeepCutAuto
import Derived.Deep.CutBlock
namespace Go.Proofs.Ytddnjlnhnnpgiaa
set_option maxRecDepth 20000
open Go.RowKit

/-- Which place is the last one's: -1, if there is none. -/
def Tv.at_ (t : Tv) : Int := if t.number = 0 then -1 else t.place
def rtRow (q : Nat) (t : Tv) (A : Option Addr) (n c : Nat) : Array Value := #[.pointer (some ⟨q, 0, none⟩), .int .i64 t.base, .int .i64 t.size, .int .i64 t.at_, .int .u64 (t.number : Int), .slice A n c, .int .u64 (t.next : Int)]
/-- A reference twin's row. -/
def Rtw (w : World) (U q : Nat) (t : Tv) (A : Option Addr) (n c : Nat) : Prop := w.heap[U]? = some (.cells (rtRow q t A n c) 82 (0, 0))
section
variable {w : World} {U q n c : Nat} {t : Tv} {A : Option Addr}
theorem Rtw.c0 (h : Rtw w U q t A n c) : w.cell? ⟨U, 0, none⟩ = some (.pointer (some ⟨q, 0, none⟩)) := cell_of_row w U 0 _ _ _ h
theorem Rtw.c1 (h : Rtw w U q t A n c) : w.cell? ⟨U, 1, none⟩ = some (.int .i64 t.base) := cell_of_row w U 1 _ _ _ h
theorem Rtw.c2 (h : Rtw w U q t A n c) : w.cell? ⟨U, 2, none⟩ = some (.int .i64 t.size) := cell_of_row w U 2 _ _ _ h
theorem Rtw.c3 (h : Rtw w U q t A n c) : w.cell? ⟨U, 3, none⟩ = some (.int .i64 t.at_) := cell_of_row w U 3 _ _ _ h
theorem Rtw.c4 (h : Rtw w U q t A n c) : w.cell? ⟨U, 4, none⟩ = some (.int .u64 (t.number : Int)) := cell_of_row w U 4 _ _ _ h
theorem Rtw.c5 (h : Rtw w U q t A n c) : w.cell? ⟨U, 5, none⟩ = some (.slice A n c) := cell_of_row w U 5 _ _ _ h
theorem Rtw.c6 (h : Rtw w U q t A n c) : w.cell? ⟨U, 6, none⟩ = some (.int .u64 (t.next : Int)) := cell_of_row w U 6 _ _ _ h
theorem Rtw.lt (h : Rtw w U q t A n c) : U < w.heap.size := (Array.getElem?_eq_some_iff.1 h).1
theorem Rtw.below {w' : World} (h : Rtw w U q t A n c) (hb : Below w.heap.size w w') : Rtw w' U q t A n c := (hb.block U h.lt).trans h
theorem rtroom_any (h : Rtw w U q t A n c) (h0 : 0 ≤ t.size) (h1 : t.size ≤ 65536) : Calls Try.prog 34 #[.pointer (some ⟨U, 0, none⟩)] w fun e w' => e = .returned (.int .i64 t.room) ∧ w = w' := by
  have c2 := h.c2
  obtain ⟨R, hR⟩ : ∃ R, R = t.room := ⟨_, rfl⟩
  have e1 : (if (65536 : Int) < t.size * 48 - 8 then (65536 : Int) else t.size * 48 - 8) = R := by rw [hR]; unfold Tv.room; split <;> omega
  have e2 : min (t.size * 48 - 8) (65536 : Int) = R := hR.symm
  have e3 : (if t.size * 48 - 8 < (65536 : Int) then t.size * 48 - 8 else (65536 : Int)) = R := by rw [hR]; unfold Tv.room; split <;> omega
  rw [← hR]
  generalize t.size = s at *
  clear hR h
  go_enter Try.func34, Try.ntmps34
  go_wp2_with (fail)
  go_ret
  exact ⟨rfl, rfl⟩
end
/-- What a save makes of the reference's device. -/
def Rv.save (r : Rv) (x : Int) (f : List UInt8) : Rv × Int := if r.wroteE x f ≠ 0 then (r.wrote x f, r.wroteE x f) else (r.wrote x f).flush
theorem Sim.save {d : Dv} {r : Rv} (h : Sim d r) (x : Int) (m : Nat) (l : List UInt8) (hl : l.length ≤ 65536) (hx : 0 ≤ x) (hn : x + (sectorsOf l.length : Nat) ≤ d.n) : Sim (d.save x m l).1 (r.save x (makeOf m l)).1 ∧ (d.save x m l).2 = (r.save x (makeOf m l)).2 := by
  have hlen := makeOf_len m l hl
  have hK : ((makeOf m l).length + 63) / 64 = sectorsOf l.length := by omega
  have hw := h.wrote x (makeOf m l)
  have hin : withinB d.n x ((((makeOf m l).length : Int) + 63) / 64) = true := by
    unfold withinB
    rw [decide_eq_true_eq]
    omega
  unfold Rv.save
  rw [← hw.2]
  have e1 : d.wroteE x (makeOf m l) = if d.down = true then 50 else (d.write x (makeOf m l) (sectorsOf l.length)).2 := by
    unfold Dv.wroteE
    rw [if_pos hin, hK]
  have e2 : d.wrote x (makeOf m l) = if d.down = true then d else (d.write x (makeOf m l) (sectorsOf l.length)).1 := by
    unfold Dv.wrote
    rw [if_pos hin, hK]
  unfold Dv.save
  cases hd : d.down with
  | true =>
    rw [hd, if_pos rfl] at e1 e2
    rw [if_pos rfl, e1, if_pos (by decide)]
    rw [e2] at hw
    exact ⟨hw.1, rfl⟩
  | false =>
    rw [hd, if_neg (by decide)] at e1 e2
    rw [if_neg (by decide), e1]
    by_cases h0 : (d.write x (makeOf m l) (sectorsOf l.length)).2 ≠ 0
    · rw [if_pos h0, if_pos h0]
      rw [e2] at hw
      exact ⟨hw.1, rfl⟩
    · rw [if_neg h0, if_neg h0]
      rw [e2] at hw
      exact hw.1.flush
end Go.Proofs.Ytddnjlnhnnpgiaa

namespace Go.Proofs.Ytddnjlnhnnpgiaa
set_option maxRecDepth 20000
open Go.RowKit

/-- A reference device whose blocks lie within N. -/
def ROwn (w : World) (B q : Nat) (N : Nat → Prop) (M : Nat) (r : Rv) : Prop := ∃ vs vl, Rdev w B q vs vl r ∧ r.safe.length + r.loose.length ≤ M ∧ r.done ≤ M ∧ ∀ i, Rfoot q vs vl i → N i
section
variable {w w' : World} {B q M M' : Nat} {N N' G : Nat → Prop} {r : Rv}
theorem ROwn.keeps (h : ROwn w B q N M r) (kp : Keeps G w w') (hG : ∀ i, G i → i < w.heap.size → ¬ N i) : ROwn w' B q N M r := by
  obtain ⟨vs, vl, h1, h2, h3, h4⟩ := h
  exact ⟨vs, vl, h1.keeps (F := fun i => G i ∧ i < w.heap.size) ⟨kp.os, kp.tape, kp.output, kp.size, fun i hi hn => kp.block i hi (fun hg => hn ⟨hg, hi⟩)⟩ (fun i hi hf => hG i hi.1 hi.2 (h4 i hf)), h2, h3, h4⟩
theorem ROwn.below (h : ROwn w B q N M r) (hb : Below w.heap.size w w') : ROwn w' B q N M r := h.keeps (G := fun _ => False) (Keeps.of_below hb) (fun _ hi => hi.elim)
theorem ROwn.mono (h : ROwn w B q N M r) (hM : M ≤ M') (hN : ∀ i, i < w.heap.size → N i → N' i) : ROwn w B q N' M' r := by
  obtain ⟨vs, vl, h1, h2, h3, h4⟩ := h
  exact ⟨vs, vl, h1, by omega, by omega, fun i hi => hN i (h1.foot_lt hi).2 (h4 i hi)⟩
theorem ROwn.of (_ : ∀ i, N i → N i) {vs vl : Value} (hN2 : ∀ i, Rfoot q vs vl i → N i) (h : Rdl w B q vs vl M r w') : ROwn w' B q (fun i => N i ∨ w.heap.size ≤ i) M r ∧ Keeps N w w' := by
  obtain ⟨vs', vl', h1, h2, h3, h4, h5⟩ := h
  exact ⟨⟨vs', vl', h1, h2, h3, fun i hi => (h5 i hi).imp (hN2 i) id⟩, h4.wide hN2⟩
theorem rown_write (h : ROwn w B q N M r) (hM : M ≤ 100000) (x : Int) (A : Option Addr) (n c : Nat) (l : List UInt8) (hl : Rd w w.heap.size 1 A n c (u8s l)) (hsep : 0 < n → ∀ b o, A = some ⟨b, o, none⟩ → ¬ N b) (hn : n ≤ 4096) :
    Calls Try.prog 36 #[.pointer (some ⟨q, 0, none⟩), .int .i64 x, .slice A n c] w fun e w' => e = .returned (.int .i64 (r.wroteE x l)) ∧ ROwn w' B q (fun i => N i ∨ w.heap.size ≤ i) (M + 64) (r.wrote x l) ∧ Keeps N w w' := by
  obtain ⟨vs, vl, h1, h2, h3, h4⟩ := h
  refine (rwrite_exact h1 h2 h3 hM x A n c l hl (fun h0 b o e hf => hsep h0 b o e (h4 b hf)) hn).mono ?_
  rintro e w' ⟨rfl, hR⟩
  exact ⟨rfl, ROwn.of (fun _ h => h) h4 hR⟩
theorem rown_flush (h : ROwn w B q N M r) (hM : M ≤ 100000) :
    Calls Try.prog 37 #[.pointer (some ⟨q, 0, none⟩)] w fun e w' => e = .returned (.int .i64 r.flush.2) ∧ ROwn w' B q (fun i => N i ∨ w.heap.size ≤ i) (M + 16) r.flush.1 ∧ Keeps N w w' := by
  obtain ⟨vs, vl, h1, h2, h3, h4⟩ := h
  refine (rflush_all h1 h2 h3 hM).mono ?_
  rintro e w' ⟨rfl, hR⟩
  exact ⟨rfl, ROwn.of (fun _ h => h) h4 hR⟩
theorem Rv.wroteE_cases (r : Rv) (x : Int) (l : List UInt8) : r.wroteE x l = 0 ∨ r.wroteE x l = 50 ∨ r.wroteE x l = 30 := by
  unfold Rv.wroteE
  split
  · exact .inr (.inl rfl)
  · split
    · induction (l.length + 63) / 64 with
      | zero => exact .inl rfl
      | succ k ih =>
        rw [Rv.write]
        split
        · exact ih
        · unfold pw
          dsimp only
          split
          · exact .inr (.inl rfl)
          · exact .inl rfl
    · exact .inr (.inr rfl)
theorem Rv.flush_cases (r : Rv) : r.flush.2 = 0 ∨ r.flush.2 = 50 := by
  unfold Rv.flush
  split
  · exact .inr rfl
  · split
    · exact .inr rfl
    · exact .inl rfl
end
section
variable {w : World} {U q n c : Nat} {t : Tv} {A : Option Addr}
theorem rtsave_long (h : Rtw w U q t A n c) (h0 : 0 ≤ t.size) (h1 : t.size ≤ 65536) (A' : Option Addr) (n' c' : Nat) (hn : t.room < n') : Calls Try.prog 14 #[.pointer (some ⟨U, 0, none⟩), .slice A' n' c'] w fun e w' => e = .returned (.int .i64 11) ∧ w = w' := by
  have HR := Lib.hid (rtroom_any h h0 h1)
  have q1 : decide (t.room < (n' : Int)) = true := by simpa using hn
  have q2 : t.room < (n' : Int) := hn
  generalize t.room = r at *
  clear h h0 h1 hn
  go_enter Try.func14, Try.ntmps14
  go_wp2_with (first
    | (go_at_call 34; refine HR.out.mono ?_; rintro e w1 ⟨rfl, rfl⟩)
    | fail)
  go_ret
  exact ⟨rfl, rfl⟩
theorem rtsave_full (h : Rtw w U q t A n c) (h0 : 0 ≤ t.size) (h1 : t.size ≤ 65536) (A' : Option Addr) (n' c' : Nat) (hn : n' ≤ t.room) (hz : t.next = 0) : Calls Try.prog 14 #[.pointer (some ⟨U, 0, none⟩), .slice A' n' c'] w fun e w' => e = .returned (.int .i64 31) ∧ w = w' := by
  have HR := Lib.hid (rtroom_any h h0 h1)
  have q1 : decide (t.room < (n' : Int)) = false := by simpa using hn
  have q2 : ¬ t.room < (n' : Int) := by omega
  have c6 := h.c6
  rw [hz] at c6
  generalize t.room = r at *
  clear h h0 h1 hn hz
  go_enter Try.func14, Try.ntmps14
  go_wp2_with (first
    | (go_at_call 34; refine HR.out.mono ?_; rintro e w1 ⟨rfl, rfl⟩)
    | fail)
  go_ret
  exact ⟨rfl, rfl⟩
theorem rt_kept {w4 : World} (h : Rtw w4 U q t.took A n c) (hn : 0 < t.next) (pl : Int) (hpl : pl = t.free) (l : List UInt8) (A' : Option Addr) (n' c' : Nat) :
    Rtw (((w4.setCell ⟨U, 3, none⟩ (.int .i64 pl)).setCell ⟨U, 4, none⟩ (.int .u64 (t.next : Int))).setCell ⟨U, 5, none⟩ (.slice A' n' c')) U q (t.kept l) A' n' c'
      ∧ Keeps (fun i => i = U) w4 (((w4.setCell ⟨U, 3, none⟩ (.int .i64 pl)).setCell ⟨U, 4, none⟩ (.int .u64 (t.next : Int))).setCell ⟨U, 5, none⟩ (.slice A' n' c')) := by
  constructor
  · have r1 := setCell_row (i := 3) (v := .int .i64 pl) h
    have r2 := setCell_row (i := 4) (v := .int .u64 (t.next : Int)) r1
    have r3 := setCell_row (i := 5) (v := .slice A' n' c') r2
    have ha : (t.kept l).at_ = pl := by
      unfold Tv.at_ Tv.kept
      rw [if_neg (show ¬ t.next = 0 by omega)]
      exact hpl.symm
    unfold Rtw
    unfold rtRow at r3 ⊢
    rw [ha]
    simp [Tv.took, Tv.kept] at r3 ⊢
    exact r3
  · exact ((keeps_set w4 U 3 _).trans (keeps_set _ U 4 _) (fun i h => .inl h)).trans (keeps_set _ U 5 _) (fun i h => .inl h)
end
set_option maxHeartbeats 4000000 in
theorem rtsave_ok {W : World} {B q M U n c : Nat} {N : Nat → Prop} {r : Rv} {t : Tv} {A : Option Addr} (h : Rtw W U q t A n c) (hR : ROwn W B q N M r) (hUN : ¬ N U) (hM : M ≤ 90000)
    (A' : Option Addr) (n' c' : Nat) (l : List UInt8) (hl : Rd W W.heap.size 1 A' n' c' (u8s l)) (hn : n' ≤ 3000) (hp0 : 0 ≤ t.place) (hp1 : t.place ≤ 1) (hb0 : 0 ≤ t.base) (hb1 : t.base ≤ 1000000) (hs0 : 0 ≤ t.size) (hs1 : t.size ≤ 1000)
    (hroom : n' ≤ t.room) (hm0 : 0 < t.next) (hm : t.next < 18446744073709551616) :
    Calls Try.prog 14 #[.pointer (some ⟨U, 0, none⟩), .slice A' n' c'] W fun e w' => e = .returned (.int .i64 (r.save (t.base + t.free * t.size) (makeOf t.next l)).2)
      ∧ ROwn w' B q (fun i => N i ∨ W.heap.size ≤ i) (M + 80) (r.save (t.base + t.free * t.size) (makeOf t.next l)).1
      ∧ ((r.save (t.base + t.free * t.size) (makeOf t.next l)).2 = 0 → Rtw w' U q (t.kept l) A' n' c') ∧ ((r.save (t.base + t.free * t.size) (makeOf t.next l)).2 ≠ 0 → Rtw w' U q t.took A n c) ∧ Keeps (fun i => N i ∨ i = U) W w' := by
  have hln : l.length = n' := by have := hl.len; rwa [u8s_len] at this
  have HRM := Lib.hid (rtroom_any h hs0 (by omega))
  have hmk := rmake_good t.next A' n' c' l W hl (by omega) hm0 hm
  have hlen := makeOf_len t.next l (by omega)
  have hK := sectorsOf_at _ (show l.length ≤ 65536 by omega)
  obtain ⟨pl, hto⟩ : ∃ pl : Int, pl = t.free := ⟨_, rfl⟩
  have hto2 : (t.at_ = 0 ∧ pl = 1) ∨ (t.at_ ≠ 0 ∧ pl = 0) := by
    rw [hto]
    unfold Tv.at_ Tv.free
    by_cases h0 : t.number = 0
    · rw [if_pos h0, if_pos h0]; exact .inr ⟨by decide, rfl⟩
    · rw [if_neg h0, if_neg h0]
      rcases (show t.place = 0 ∨ t.place = 1 by omega) with h | h
      · rw [h]; exact .inl ⟨rfl, rfl⟩
      · rw [h]; exact .inr ⟨by decide, rfl⟩
  rw [← hto]
  obtain ⟨x, hx⟩ : ∃ x, x = t.base + pl * t.size := ⟨_, rfl⟩
  rw [← hx]
  have q1 : decide (t.room < (n' : Int)) = false := by simpa using hroom
  have q2 : ¬ t.room < (n' : Int) := by omega
  have q3 : ((t.next : Int) == 0) = false := by simp; omega
  have q4 : (t.next == 0) = false := by simp; omega
  have c0 := h.c0
  have c1 := h.c1
  have c2 := h.c2
  have c3 := h.c3
  have c4 := h.c4
  have c5 := h.c5
  have c6 := h.c6
  have f3 := frozen_of_row W U 3 _ _ h
  have f4 := frozen_of_row W U 4 _ _ h
  have f5 := frozen_of_row W U 5 _ _ h
  have f6 := frozen_of_row W U 6 _ _ h
  have hUlt := h.lt
  have HMK := Lib.hid hmk
  have HR := Lib.hid hR
  have HL := Lib.hid (And.intro hlen (And.intro hK hln))
  have HT := Lib.hid h
  have HT2 := Lib.hid hto2
  have HX := Lib.hid hx
  have HTO := Lib.hid hto
  have HM := Lib.hid hM
  have HN := Lib.hid hn
  have HS := Lib.hid (And.intro hs0 (And.intro hs1 (And.intro hb0 hb1)))
  have HP := Lib.hid (And.intro hp0 hp1)
  have HNX := Lib.hid (And.intro hm0 hm)
  clear hmk hR hlen hK hln h hto2 hx hto hM hn hs0 hs1 hb0 hb1 hp0 hp1 hm0 hm hroom hl
  have hpre : ((t.at_ = 0 ∧ pl = 1) ∨ ((t.at_ == 0) = false ∧ pl = 0)) := by
    rcases HT2.out with ⟨h1, h2⟩ | ⟨h1, h2⟩
    · exact .inl ⟨h1, h2⟩
    · exact .inr ⟨by simpa using h1, h2⟩
  generalize hta : t.at_ = ta at *
  rcases hpre with ⟨rfl, rfl⟩ | ⟨hta2, rfl⟩
  all_goals (
    first
      | (have hxx : x = t.base + t.size := by have := HX.out; omega
         clear HX
         subst hxx)
      | (have hxx : x = t.base := by have := HX.out; omega
         clear HX
         subst hxx)
    go_enter Try.func14, Try.ntmps14
    go_upto_region 11 with (first
      | (go_at_call 34; refine HRM.out.mono ?_; rintro e w1 ⟨rfl, rfl⟩)
      | (go_at_call 35; refine HMK.out.mono ?_; rintro e w1 ⟨v1, rfl, hown1, hb1⟩
         have c0 := kept hb1 c0 hUlt
         have c1 := kept hb1 c1 hUlt
         have c2 := kept hb1 c2 hUlt
         have c6 := kept hb1 c6 hUlt
         have f6 := (hb1.frozen (p := ⟨U, 6, none⟩) hUlt).trans f6)
      | fail)
    have hwr : IntKind.u64.wrap ((t.next : Int) + 1) = (((t.next + 1) % 18446744073709551616 : Nat) : Int) := by simp [IntKind.wrap, IntKind.signed, IntKind.bits]
    rw [hwr]
    obtain ⟨W2, hW2⟩ : ∃ W2, W2 = w1.setCell ⟨U, 6, none⟩ (.int .u64 (((t.next + 1) % 18446744073709551616 : Nat) : Int)) := ⟨_, rfl⟩
    rw [← hW2]
    have k12 := keeps_set w1 U 6 (.int .u64 (((t.next + 1) % 18446744073709551616 : Nat) : Int))
    rw [← hW2] at k12
    have rt1 := HT.out.below hb1
    have rt2 : Rtw W2 U q t.took A n c := by
      have r := setCell_row (i := 6) (v := .int .u64 (((t.next + 1) % 18446744073709551616 : Nat) : Int)) rt1
      rw [← hW2] at r
      unfold Rtw
      simp [rtRow, Tv.took] at r ⊢
      exact r
    have own2 := ownsRow_kp hown1 k12 (fun i hi e => by have := (hown1.lt i hi).1; omega)
    obtain ⟨A1, cc1, rfl, hrd2⟩ := rd_owns own2
    have hfar : 0 < 64 * sectorsOf (l.length : Int) → ∀ b o, A1 = some ⟨b, o, none⟩ → W.heap.size ≤ b := fun _ b o e => by
      subst e
      have hob : Value.ownBlock (.slice (some ⟨b, o, none⟩) (64 * sectorsOf (l.length : Int)) cc1) = some b := rfl
      exact (hown1.lt b hob).1
    obtain ⟨N0, hN0⟩ : ∃ N0 : Nat → Prop, N0 = fun i => N i ∧ i < W.heap.size := ⟨_, rfl⟩
    have hR2 : ROwn W2 B q N0 M r := by
      rw [hN0]
      exact ((HR.out.mono (Nat.le_refl M) (N' := fun i => N i ∧ i < W.heap.size) (fun i hi hn => ⟨hn, hi⟩)).below hb1).keeps k12 (fun i hi _ hn => by subst hi; exact hUN hn.1)
    have hUN0 : ¬ N0 U := fun h => by rw [hN0] at h; exact hUN h.1
    have hN0n : ∀ i, N0 i → N i := fun i h => by rw [hN0] at h; exact h.1
    have hsep : 0 < 64 * sectorsOf (l.length : Int) → ∀ b o, A1 = some ⟨b, o, none⟩ → ¬ N0 b := fun h0 b o e h => by
      have := hfar h0 b o e
      rw [hN0] at h
      omega
    have hs12 : W.heap.size ≤ W2.heap.size := Nat.le_trans hb1.size k12.size
    have hkW2 : Keeps (fun i => N i ∨ i = U) W W2 := (Keeps.of_below hb1).trans k12 (fun i h => .inl (.inr h))
    have g0 : W2.cell? ⟨U, 0, none⟩ = some (.pointer (some ⟨q, 0, none⟩)) := rt2.c0
    have g1 : W2.cell? ⟨U, 1, none⟩ = some (.int .i64 t.base) := rt2.c1
    have g2 : W2.cell? ⟨U, 2, none⟩ = some (.int .i64 t.size) := rt2.c2
    have HR2 := Lib.hid hR2
    have HRT2 := Lib.hid rt2
    have HRD2 := Lib.hid hrd2
    have HSEP := Lib.hid hsep
    have HU0 := Lib.hid hUN0
    have HN0 := Lib.hid hN0n
    have HS12 := Lib.hid hs12
    have HKW := Lib.hid hkW2
    clear hR2 rt2 hrd2 hsep hUN0 hN0n hs12 hkW2 hN0 hown1 own2 hfar rt1 k12 hW2 hb1 hwr c0 c1 c2 c3 c4 c5 c6 f3 f4 f5 f6
    refine wp_keeps N0 [([0, 1, 2, 3, 4, 5, 6, 7, 8, 9, 10, 11, 12, 13, 14, 15], 16)] [17] (by kernel_rfl) (by kernel_rfl) (fun d _ _ _ _ h => by cases d <;> exact h) fun wd hbd => ?_
    intro f hf
    have d0 := fun z => (hf z).cell g0 HU0.out
    have d1 := fun z => (hf z).cell g1 HU0.out
    have d2 := fun z => (hf z).cell g2 HU0.out
    have hsz1 := HS.out.1
    have hsz2 := HS.out.2.1
    have hsz3 := HS.out.2.2.1
    have hsz4 := HS.out.2.2.2
    simp only [pickI, Option.toList_some, List.cons_append, List.nil_append, List.getElem?_toArray, List.getElem?_cons_succ, List.getElem?_cons_zero]
    repeat (go_big_quiet_step (fail))
    refine wpQuiet_nil ?_
    clear d0 d1 d2 hf f
    refine seg_op (by simp only [List.getElem?_toArray, List.getElem?_cons_succ, List.getElem?_cons_zero]; rfl) fun KK hKK => ?_
    go_simp
    refine (rown_write (HR2.out.below hbd) (by have := HM.out; omega) _ A1 (64 * sectorsOf (l.length : Int)) cc1 (makeOf t.next l) ((HRD2.out.below hbd).more hbd.size) HSEP.out (by have := HL.out; have := HN.out; omega)).mono ?_
    rintro e w3 ⟨rfl, hR3, hk3⟩
    have hEc := Rv.wroteE_cases r (t.base + t.size) (makeOf t.next l)
    have hEd := Rv.wroteE_cases r t.base (makeOf t.next l)
    first
      | (have hx0 : (1 : Int) = t.free := HTO.out
         obtain ⟨E, hE⟩ : ∃ E, E = r.wroteE (t.base + t.size) (makeOf t.next l) := ⟨_, rfl⟩
         obtain ⟨r1, hr1⟩ : ∃ r1, r1 = r.wrote (t.base + t.size) (makeOf t.next l) := ⟨_, rfl⟩
         have hsv : r.save (t.base + t.size) (makeOf t.next l) = if E ≠ 0 then (r1, E) else r1.flush := by rw [hE, hr1]; rfl
         rw [← hE] at hEc
         rw [← hE]
         rw [← hr1] at hR3
         have HSV := Lib.hid hsv
         clear hEd hx0 hE hr1 hsv)
      | (have hx0 : (0 : Int) = t.free := HTO.out
         obtain ⟨E, hE⟩ : ∃ E, E = r.wroteE t.base (makeOf t.next l) := ⟨_, rfl⟩
         obtain ⟨r1, hr1⟩ : ∃ r1, r1 = r.wrote t.base (makeOf t.next l) := ⟨_, rfl⟩
         have hsv : r.save t.base (makeOf t.next l) = if E ≠ 0 then (r1, E) else r1.flush := by rw [hE, hr1]; rfl
         rw [← hE] at hEd
         rw [← hE]
         rw [← hr1] at hR3
         have HSV := Lib.hid hsv
         clear hEc hx0 hE hr1 hsv
         have hEc := hEd
         clear hEd)
    have hk23 : Keeps N0 W2 w3 := (Keeps.of_below (F := N0) hbd).trans hk3 (fun i h => .inl h)
    refine hKK.out _ _ (seg_keep hk23 ?_)
    have hs3 := hk23.size
    have rt3 : Rtw w3 U q t.took A n c := hk23.row HRT2.out HU0.out
    have g0 := rt3.c0
    have g3 := rt3.c3
    have g4 := rt3.c4
    have g5 := rt3.c5
    have f3 := frozen_of_row w3 U 3 _ _ rt3
    have f4 := frozen_of_row w3 U 4 _ _ rt3
    have f5 := frozen_of_row w3 U 5 _ _ rt3
    have hK3 : Keeps (fun i => N i ∨ i = U) W w3 := HKW.out.trans hk23 (fun i h => .inl (.inl (HN0.out i h)))
    have hR3' : ROwn w3 B q (fun i => N0 i ∨ W2.heap.size ≤ i) (M + 64) r1 := hR3.mono (Nat.le_refl _) (fun i _ h => h.imp id (fun h => Nat.le_trans hbd.size h))
    have HR3 := Lib.hid hR3'
    have HRT3 := Lib.hid rt3
    have HK3 := Lib.hid hK3
    have HS3 := Lib.hid hs3
    have HWD : Hid (∀ i, (N0 i ∨ W2.heap.size ≤ i) → N i ∨ W.heap.size ≤ i) := Lib.hid (fun i h => h.imp (HN0.out i) (fun h => Nat.le_trans HS12.out h))
    clear hKK KK hR3 hR3' hk3 hk23 hbd rt3 hK3 hs3 hsz1 hsz2 hsz3 hsz4 g1 g2
    intro f hf
    simp only [pickI, Option.toList_some, List.cons_append, List.nil_append, List.getElem?_toArray, List.getElem?_cons_succ, List.getElem?_cons_zero]
    repeat (go_big_quiet_step (fail))
    refine wpQuiet_nil ?_
    clear hf f
    have hFc := Rv.flush_cases r1
    have hFl := rown_flush HR3.out (by have := HM.out; omega)
    generalize hrf : r1.flush = rf at *
    obtain ⟨r2, F⟩ := rf
    dsimp only at hFc hFl
    have HFL := Lib.hid hFl
    have HRF := Lib.hid hrf
    clear hFl hrf
    have HXX : Hid (W.heap.size ≤ w3.heap.size) := Lib.hid (Nat.le_trans HS12.out HS3.out)
    rcases hEc with rfl | rfl | rfl
    · rcases hFc with rfl | rfl
      · go_wp2_with (first
          | (go_at_call 37; refine HFL.out.mono ?_; rintro e w4 ⟨rfl, hR4, hk4⟩
             have hUn : ¬ ((fun i => N0 i ∨ W2.heap.size ≤ i) U) := fun h => h.elim HU0.out (fun h => by have := HS12.out; omega)
             have rt4 : Rtw w4 U q t.took A n c := hk4.row HRT3.out hUn
             have g3 := rt4.c3
             have g4 := rt4.c4
             have g5 := rt4.c5
             have f3 := frozen_of_row w4 U 3 _ _ rt4
             have f4 := frozen_of_row w4 U 4 _ _ rt4
             have f5 := frozen_of_row w4 U 5 _ _ rt4
             have HRT4 := Lib.hid rt4
             have HR4 := Lib.hid hR4
             have HK4 := Lib.hid hk4
             have HUN := Lib.hid hUn
             clear rt4 hR4 hk4 hUn)
          | fail)
        go_ret
        rw [HSV.out, if_neg (by decide)]
        have hkk := rt_kept HRT4.out HNX.out.1 _ HTO.out l A' n' c'
        have hR5 := HR4.out.keeps hkk.2 (fun i hi _ hn => by subst hi; exact hn.elim HUN.out (fun h => by have := (HRT4.out).lt; have := HRT3.out.lt; omega))
        refine ⟨rfl, hR5.mono (by omega) (fun i _ h => h.elim (fun h => HWD.out i h) (fun h => .inr (Nat.le_trans HXX.out h))), fun _ => hkk.1, fun h => absurd rfl h, (HK3.out.trans HK4.out (fun i h => (HWD.out i h).imp .inl id)).trans hkk.2 (fun i h => .inl (.inr h))⟩
      · go_wp2_with (first
          | (go_at_call 37; refine HFL.out.mono ?_; rintro e w4 ⟨rfl, hR4, hk4⟩)
          | fail)
        go_ret
        rw [HSV.out, if_neg (by decide)]
        refine ⟨rfl, hR4.mono (by omega) (fun i _ h => h.elim (fun h => HWD.out i h) (fun h => .inr (Nat.le_trans HXX.out h))), fun h => absurd h (show ¬ (50 : Int) = 0 by decide), fun _ => hk4.row HRT3.out (fun h => ?_), HK3.out.trans hk4 (fun i h => (HWD.out i h).imp .inl id)⟩
        rcases h with h | h
        · exact HU0.out h
        · have := HS12.out; omega
    · go_wp2_with (fail)
      go_ret
      rw [HSV.out, if_pos (by decide)]
      exact ⟨rfl, HR3.out.mono (by omega) (fun i _ h => HWD.out i h), fun h => absurd h (show ¬ (50 : Int) = 0 by decide), fun _ => HRT3.out, HK3.out⟩
    · go_wp2_with (fail)
      go_ret
      rw [HSV.out, if_pos (by decide)]
      exact ⟨rfl, HR3.out.mono (by omega) (fun i _ h => HWD.out i h), fun h => absurd h (show ¬ (30 : Int) = 0 by decide), fun _ => HRT3.out, HK3.out⟩)
end Go.Proofs.Ytddnjlnhnnpgiaa
