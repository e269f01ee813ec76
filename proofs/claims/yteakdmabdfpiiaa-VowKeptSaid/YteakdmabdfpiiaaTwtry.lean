/- A try of a twin: a save within which the power may go, a crash, and what is opened then. -/
import Derived.Test.YteakdmabdfpiiaaStands
import Derived.Test.YteakdmabdfpiiaaTwlZ
namespace Go.Proofs.Yteakdmabdfpiiaa
set_option maxRecDepth 20000
open Go.RowKit

theorem stands_fused {base : Int} {size : Nat} {d : Dv} {t : Tv} (h : Stands base size d t) (n : Int) (hn : Key n) : Stands base size (d.fused n) t := by
  refine ⟨⟨h.ok.n, h.ok.S, h.ok.ws, ?_⟩, h.calm, h.tb, h.ts, h.next, h.ends, ?_⟩
  · unfold Dv.fused
    dsimp only
    have := hn
    unfold Key at this
    split <;> omega
  · rw [h.best]
    congr 1
    exact bytes_same (d.fused n) d _ _ (fun _ _ => rfl)
/-- A crash of a calm device. -/
theorem stands_calm {base : Int} {size : Nat} {d : Dv} {t : Tv} (h : Stands base size d t) (hx : t.next < 256) (ks : List Int) (d' : Dv) (hd' : d' = d.crash ks) :
    Stands base size d' (openTv base size (d'.bytes base (2 * size))) ∧ d'.down = false ∧ d'.fuse = 0 ∧ d'.n = d.n ∧ (openTv base size (d'.bytes base (2 * size))).next ≤ t.next ∧ (openTv base size (d'.bytes base (2 * size))).number = t.number ∧ (openTv base size (d'.bytes base (2 * size))).text = t.text := by
  have hn : d'.n = d.n := by rw [hd']; exact (Dv.crash1_ws d ks d.ws.length).2.1
  have hS : d'.S = d.S := by rw [hd']; unfold Dv.crash; rw [h.calm]; rfl
  have hw : d'.ws = [] := by rw [hd']; rfl
  have hf : d'.fuse = 0 := by rw [hd']; rfl
  have ho : d'.Ok := ⟨by rw [hn]; exact h.ok.n, by rw [hS]; exact h.ok.S, (fun p hp => by rw [hw] at hp; cases hp), by rw [hf]; decide⟩
  have hb : d'.bytes base (2 * size) = d.bytes base (2 * size) := bytes_same d d' _ _ (fun i hi => by rw [seen_calm d' hw, seen_calm d h.calm, hS])
  have hx0 := h.next
  obtain ⟨s1, s2⟩ := stands_open (base := base) (size := size) ho hw (t.next - 1) (by omega) (fun i hi => by rw [hS]; exact h.ends i hi)
  have e := h.best
  rw [← hb] at e
  refine ⟨s1, by rw [hd']; rfl, hf, hn, by omega, ?_⟩
  exact ⟨(Prod.mk.inj (Prod.mk.inj e).2).1.symm, (Prod.mk.inj (Prod.mk.inj e).2).2.symm⟩

/-- What is told of a save, and what becomes of the device. -/
def Tv.tried (t : Tv) (d : Dv) (l : List UInt8) : Dv × Int := if t.room < (l.length : Int) then (d, 11) else d.save (t.base + t.free * t.size) t.next l
/-- Behind a try what was saved last is what it was, or what was to be saved. -/
theorem try_pure {base : Int} {size : Nat} {d : Dv} {t : Tv} (h : Stands base size d t) (hd : d.down = false) (hs : 0 < size) (hs2 : size ≤ 60) (hx : t.next < 255) (l : List UInt8) (ks : List Int) (d2 : Dv) (hd2 : d2 = (t.tried d l).1.crash ks) (t2 : Tv) (ht2 : t2 = openTv base size (d2.bytes base (2 * size))) :
    Stands base size d2 t2 ∧ d2.down = false ∧ d2.n = d.n ∧ t2.next ≤ t.next + 1
    ∧ (((t.tried d l).2 = 0 ∧ 0 < t2.number ∧ t2.text = l) ∨ (((t.tried d l).2 = 50 ∨ (t.tried d l).2 = 11) ∧ t2.number = t.number ∧ t2.text = t.text) ∨ ((t.tried d l).2 = 50 ∧ 0 < t2.number ∧ t2.text = l)) := by
  unfold Tv.tried at hd2 ⊢
  by_cases hr : t.room < (l.length : Int)
  · rw [if_pos hr] at hd2 ⊢
    obtain ⟨s1, s2, s3, s4, s5, s6, s7⟩ := stands_calm h (by omega) ks d2 hd2
    rw [← ht2] at s1 s5 s6 s7
    exact ⟨s1, s2, s4, by omega, .inr (.inl ⟨.inr rfl, s6, s7⟩)⟩
  · rw [if_neg hr] at hd2 ⊢
    have hts := h.ts
    have hl : l.length ≤ 65536 ∧ (l.length : Int) ≤ size * 48 - 8 := by
      unfold Tv.room at hr
      rw [hts] at hr
      omega
    have hK : sectorsOf l.length ≤ size := by
      rw [sectorsOf_at _ hl.1]
      omega
    obtain ⟨s1, s2, s3, s4, s5, s6, s7⟩ := stands_crash h hd hs l hl.1 hK hx ks d2 hd2
    rw [← ht2] at s1 s5 s6 s7
    refine ⟨s1, s2, s4, s5, ?_⟩
    have hx0 := h.next
    rcases Dv.save_pw d (t.base + t.free * t.size) t.next l with he | he
    · left
      have := s7 he
      exact ⟨he, by omega, this.2⟩
    · right
      rcases s6 with s6 | s6
      · exact .inl ⟨.inl he, s6⟩
      · exact .inr ⟨he, by omega, s6.2⟩
theorem stands_zero {base : Int} {size : Nat} {d : Dv} {t : Tv} (h : Stands base size d t) (hn : t.number = 0) : t.text = [] := by
  have hb := h.is
  unfold bestOf at hb
  split at hb
  · rename_i h1
    have := (Prod.mk.inj (Prod.mk.inj hb).2).1
    omega
  · split at hb
    · rename_i h1
      have := (Prod.mk.inj (Prod.mk.inj hb).2).1
      omega
    · exact (Prod.mk.inj (Prod.mk.inj hb).2).2
theorem stands_place {base : Int} {size : Nat} {d : Dv} {t : Tv} (h : Stands base size d t) : 0 ≤ t.place ∧ t.place ≤ 1 := by
  have hb := h.is
  unfold bestOf at hb
  split at hb
  · have := (Prod.mk.inj hb).1
    omega
  · split at hb
    · have := (Prod.mk.inj hb).1
      omega
    · have := (Prod.mk.inj hb).1
      omega
/-- What was saved last, in memory of its own. -/
theorem twlast_far {w : World} {T : Nat} {g : Option Addr} {t : Tv} (h : Tw w T g t) (hn : 0 < t.number) (hl : t.text.length ≤ maxLen) : Calls Try.prog 22 #[.pointer (some ⟨T, 0, none⟩)] w fun e w' => ∃ A c, e = .returned (.tuple #[.slice A t.text.length c, .bool true]) ∧ Rd w' w'.heap.size 1 A t.text.length c (u8s t.text) ∧ (∀ b i, A = some ⟨b, i, none⟩ → w.heap.size ≤ b) ∧ Below w.heap.size w w' := by
  have hN := twnumber_any h
  have c5 := h.c5
  have q1 : ((t.number : Int) == 0) = false := by simp; omega
  have q2 : (t.number == 0) = false := by simp; omega
  generalize t.number = n at *
  generalize t.text = l at *
  have HN := Lib.hid hN
  have HL := Lib.hid hl
  clear hN h hn hl
  go_enter Try.func22, Try.ntmps22
  go_wp2_with (first
    | (go_at_call 24; refine HN.out.mono ?_; rintro e w1 ⟨rfl, rfl⟩)
    | (refine wpL_strb (o := ⟨some 12, _, _, _, _, _⟩) rfl (.tmp 11) _ _ rfl Try.underlying9 Try.underlying38 Try.underlying5 rfl HL.out ?_; intro W A cap hrd hfar hb)
    | fail)
  go_ret2
  exact ⟨A, cap, rfl, hrd, hfar, hb⟩
/-- What was saved last, whatever it is. -/
theorem twlast_all {w : World} {T : Nat} {g : Option Addr} {t : Tv} (h : Tw w T g t) (hz : t.number = 0 → t.text = []) (hl : t.text.length ≤ 65536) : Calls Try.prog 22 #[.pointer (some ⟨T, 0, none⟩)] w fun e w' => ∃ A c, e = .returned (.tuple #[.slice A t.text.length c, .bool (decide (0 < t.number))]) ∧ Rd w' w'.heap.size 1 A t.text.length c (u8s t.text) ∧ (∀ b i, A = some ⟨b, i, none⟩ → w.heap.size ≤ b) ∧ Below w.heap.size w w' := by
  by_cases hn : t.number = 0
  · refine (twlast_none h hn).mono ?_
    rintro e w' ⟨rfl, rfl⟩
    refine ⟨none, 0, ?_, ?_, (fun b i e => by cases e), Below.refl _ _⟩
    · rw [hz hn, hn]; rfl
    · rw [hz hn]; exact Rd.nil_
  · refine (twlast_far h (by omega) (by unfold maxLen; omega)).mono ?_
    rintro e w' ⟨A, c, rfl, hr, hf, hb⟩
    refine ⟨A, c, ?_, hr, hf, hb⟩
    rw [decide_eq_true (by omega : 0 < t.number)]
section
variable {w W : World} {B g T M : Nat} {d : Dv} {t : Tv}
theorem tl_try (h : Tl w W B g T M d t) {base : Int} {size : Nat} (hst : Stands base size d t) (hM : M ≤ 90000) (hs2 : size ≤ 60) (hb0 : 0 ≤ base) (hx : t.next < 255) (hin : base + 2 * size ≤ d.n)
    (A : Option Addr) (n c : Nat) (l : List UInt8) (hl : Rd W W.heap.size 1 A n c (u8s l)) (hn : n ≤ 3000) :
    Calls Try.prog 16 #[.pointer (some ⟨T, 0, none⟩), .slice A n c] W fun e w' => e = .returned (.int .i64 (t.tried d l).2) ∧ ∃ t', Tl w w' B g T (M + 80) (t.tried d l).1 t' := by
  have hln : l.length = n := by have := hl.len; rwa [u8s_len] at this
  have hts := hst.ts
  have htb := hst.tb
  have hok := hst.ok.n
  unfold Tv.tried
  by_cases hr : t.room < (l.length : Int)
  · rw [if_pos hr]
    refine (twsave_long h.tw (by omega) (by omega) A n c (by rw [← hln]; exact hr) (by unfold maxLen; omega)).mono ?_
    rintro e w' ⟨rfl, rfl⟩
    obtain ⟨N, h1, h2, h3, h4, h5, h6⟩ := h
    exact ⟨rfl, t, N, h1.mono (by omega) (fun i _ h => h), h2, h3, h4, h5, h6⟩
  · rw [if_neg hr]
    have hp := stands_place hst
    refine (tl_save h hM A n c l hl hn hp.1 hp.2 (by omega) (by omega) (by omega) (by omega) (by rw [← hln]; omega) hst.next (by omega) (by omega)).mono ?_
    rintro e w' ⟨rfl, h⟩
    exact ⟨rfl, _, h⟩
end
end Go.Proofs.Yteakdmabdfpiiaa
