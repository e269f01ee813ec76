/- A twin: what is saved. A twin: what is saved, where there is room. twin.Open, where there is no twin. -/
import Derived.Test.YtddnjlnhnnpgiaaTwwrite
import Derived.BigRegion
import Derived.Deep.DeepCutAuto
import Derived.Deep.CutBlock
import Derived.Test.YtddnjlnhnnpgiaaTwopen
namespace Go.Proofs.Ytddnjlnhnnpgiaa
set_option maxRecDepth 20000
open Go.RowKit

theorem twsave_nil (A : Option Addr) (n c : Nat) (w : World) : Calls Try.prog 13 #[.pointer none, .slice A n c] w fun e w' => e = .returned (.int .i64 1) ∧ w = w' := by
  go_enter Try.func13, Try.ntmps13
  go_wp2_with (first
    | (go_at_call 31; refine (topen_nil _).mono ?_; rintro e w1 ⟨rfl, rfl⟩)
    | fail)
  go_ret
  exact ⟨rfl, rfl⟩
theorem twsave_bare {w : World} {T : Nat} {t : Tv} (h : Tw w T none t) (A : Option Addr) (n c : Nat) : Calls Try.prog 13 #[.pointer (some ⟨T, 0, none⟩), .slice A n c] w fun e w' => e = .returned (.int .i64 1) ∧ w = w' := by
  have HO := Lib.hid (topen_bare h)
  clear h
  go_enter Try.func13, Try.ntmps13
  go_wp2_with (first
    | (go_at_call 31; refine HO.out.mono ?_; rintro e w1 ⟨rfl, rfl⟩)
    | fail)
  go_ret
  exact ⟨rfl, rfl⟩
theorem twsave_long {w : World} {T : Nat} {g : Addr} {t : Tv} (h : Tw w T (some g) t) (h0 : 0 ≤ t.size) (h1 : t.size ≤ 65536) (A : Option Addr) (n c : Nat) (hn : t.room < n) (_ : n ≤ maxLen) : Calls Try.prog 13 #[.pointer (some ⟨T, 0, none⟩), .slice A n c] w fun e w' => e = .returned (.int .i64 11) ∧ w = w' := by
  have HO := Lib.hid (topen_any h)
  have HR := Lib.hid (twroom_any h h0 h1)
  have q1 : decide (t.room < (n : Int)) = true := by simpa using hn
  have q2 : t.room < (n : Int) := hn
  generalize t.room = r at *
  clear h h0 h1 hn
  go_enter Try.func13, Try.ntmps13
  go_wp2_with (first
    | (go_at_call 31; refine HO.out.mono ?_; rintro e w1 ⟨rfl, rfl⟩)
    | (go_at_call 23; refine HR.out.mono ?_; rintro e w1 ⟨rfl, rfl⟩)
    | fail)
  go_ret
  exact ⟨rfl, rfl⟩
theorem twsave_full {w : World} {T : Nat} {g : Addr} {t : Tv} (h : Tw w T (some g) t) (h0 : 0 ≤ t.size) (h1 : t.size ≤ 65536) (A : Option Addr) (n c : Nat) (hn : n ≤ t.room) (hz : t.next = 0) : Calls Try.prog 13 #[.pointer (some ⟨T, 0, none⟩), .slice A n c] w fun e w' => e = .returned (.int .i64 31) ∧ w = w' := by
  have HO := Lib.hid (topen_any h)
  have HR := Lib.hid (twroom_any h h0 h1)
  have q1 : decide (t.room < (n : Int)) = false := by simpa using hn
  have q2 : ¬ t.room < (n : Int) := by omega
  have c6 := h.c6
  rw [hz] at c6
  generalize t.room = r at *
  clear h h0 h1 hn hz
  go_enter Try.func13, Try.ntmps13
  go_wp2_with (first
    | (go_at_call 31; refine HO.out.mono ?_; rintro e w1 ⟨rfl, rfl⟩)
    | (go_at_call 23; refine HR.out.mono ?_; rintro e w1 ⟨rfl, rfl⟩)
    | fail)
  go_ret
  exact ⟨rfl, rfl⟩

end Go.Proofs.Ytddnjlnhnnpgiaa

namespace Go.Proofs.Ytddnjlnhnnpgiaa
set_option maxRecDepth 20000
open Go.RowKit

theorem Dv.save_pw (d : Dv) (x : Int) (m : Nat) (l : List UInt8) : (d.save x m l).2 = 0 ∨ (d.save x m l).2 = 50 := by
  unfold Dv.save
  split
  · exact .inr rfl
  · split
    · rename_i h
      rcases Dv.write_pw d x (makeOf m l) (sectorsOf l.length) with e | e
      · exact absurd e h
      · exact .inr e
    · unfold Dv.flush
      split
      · exact .inr rfl
      · split
        · exact .inr rfl
        · exact .inl rfl
/-- The next number is taken, whatever becomes of it. -/
def Tv.took (t : Tv) : Tv := { t with next := (t.next + 1) % 18446744073709551616 }
/-- What is saved is the last. -/
def Tv.kept (t : Tv) (l : List UInt8) : Tv := { t with place := t.free, number := t.next, text := l, next := (t.next + 1) % 18446744073709551616 }
def Tv.after (t : Tv) (l : List UInt8) (e : Int) : Tv := if e = 0 then t.kept l else t.took

theorem Tw.set {w : World} {T : Nat} {g : Option Addr} {t : Tv} (h : Tw w T g t) (x : Int) (y : Nat) (z : List UInt8) : Tw (((w.setCell ⟨T, 3, none⟩ (.int .i64 x)).setCell ⟨T, 4, none⟩ (.int .u64 (y : Int))).setCell ⟨T, 5, none⟩ (.string (str z))) T g { t with place := x, number := y, text := z } := by
  have r := setCell_row (i := 5) (v := .string (str z)) (setCell_row (i := 4) (v := .int .u64 (y : Int)) (setCell_row (i := 3) (v := .int .i64 x) h))
  unfold Tw
  simp [twRow] at r ⊢
  exact r
theorem Tw.took {w : World} {T : Nat} {g : Option Addr} {t : Tv} (h : Tw w T g t) : Tw (w.setCell ⟨T, 6, none⟩ (.int .u64 (((t.next + 1) % 18446744073709551616 : Nat) : Int))) T g t.took := by
  have r := setCell_row (i := 6) (v := .int .u64 (((t.next + 1) % 18446744073709551616 : Nat) : Int)) h
  unfold Tw
  simp [twRow, Tv.took] at r ⊢
  exact r
theorem keeps_set (w : World) (T i : Nat) (v : Value) : Keeps (fun j => j = T) w (w.setCell ⟨T, i, none⟩ v) := Keeps.one (setCell_grows w T i v)

set_option maxHeartbeats 4000000 in
theorem twsave_ok {w : World} {B g M T : Nat} {N : Nat → Prop} {d : Dv} {t : Tv} (h : Own w B g N M d) (hM : M ≤ 90000) (hT : Tw w T (some ⟨g, 0, none⟩) t) (hTN : ¬ N T)
    (A : Option Addr) (n c : Nat) (l : List UInt8) (hl : Rd w w.heap.size 1 A n c (u8s l)) (hn : n ≤ 3000) (hp0 : 0 ≤ t.place) (hp1 : t.place ≤ 1) (hb0 : 0 ≤ t.base) (hb1 : t.base ≤ 1000000) (hs0 : 0 ≤ t.size) (hs1 : t.size ≤ 1000)
    (hroom : n ≤ t.room) (hm0 : 0 < t.next) (hm : t.next < 18446744073709551616) (hin : t.base + 2 * t.size ≤ d.n) :
    Calls Try.prog 13 #[.pointer (some ⟨T, 0, none⟩), .slice A n c] w fun e w' => e = .returned (.int .i64 (d.save (t.base + t.free * t.size) t.next l).2)
      ∧ Own w' B g (fun i => N i ∨ w.heap.size ≤ i) (M + 80) (d.save (t.base + t.free * t.size) t.next l).1 ∧ Tw w' T (some ⟨g, 0, none⟩) (t.after l (d.save (t.base + t.free * t.size) t.next l).2) ∧ Keeps (fun i => N i ∨ i = T) w w' := by
  have hln : l.length = n := by have := hl.len; rwa [u8s_len] at this
  have HO := Lib.hid (topen_any hT)
  have HR := Lib.hid (twroom_any hT hs0 (by omega))
  have HF := Lib.hid (fun (W : World) (hW : Below w.heap.size w W) => (twfree_any (hT.below hW) hp0 hp1).mono (fun e w' hh => (⟨hh.1, by rw [hh.2]; exact Below.refl _ _⟩ : e = .returned (.int .i64 t.free) ∧ Below W.heap.size W w')))
  have hfr : 0 ≤ t.free ∧ t.free ≤ 1 := by unfold Tv.free; split <;> omega
  have hsz : t.free * t.size + t.size ≤ 2 * t.size ∧ 0 ≤ t.free * t.size := by
    rcases (show t.free = 0 ∨ t.free = 1 by omega) with e | e
    · rw [e]; omega
    · rw [e]; omega
  have hk := sectorsOf_at _ (show l.length ≤ 65536 by omega)
  have hks : (sectorsOf (l.length : Int) : Int) ≤ t.size := by
    have : t.room = min (t.size * 48 - 8) 65536 := rfl
    omega
  have HWr := Lib.hid (fun (W : World) (t' : Tv) (hO : Own W B g (fun i => N i ∧ i < w.heap.size) M d) (hT' : Tw W T (some ⟨g, 0, none⟩) t') (hb : t'.base = t.base) (hs : t'.size = t.size) =>
    twwrite_any hO hM hT' (fun h => hTN h.1) t.free t.next l (t.base + t.free * t.size) (by rw [hb, hs]) hfr.1 hfr.2 (by omega) (by omega) (by omega) (by omega) (by omega) hm0 hm (by omega))
  have hpw := Dv.save_pw d (t.base + t.free * t.size) t.next l
  generalize d.save (t.base + t.free * t.size) t.next l = r at *
  obtain ⟨d1, er⟩ := r
  dsimp only at HWr hpw ⊢
  have q1 : decide (t.room < (n : Int)) = false := by simpa using hroom
  have q2 : ¬ t.room < (n : Int) := by omega
  have q3 : (t.next == 0) = false := by simp; omega
  have q4 : ((t.next : Int) == 0) = false := by simp; omega
  have c6 := hT.c6
  have hlt := hT.lt
  have HT := Lib.hid hT
  have HOW := Lib.hid h
  have HL := Lib.hid hl
  have HNX := Lib.hid (And.intro hm0 hm)
  have HPW := Lib.hid hpw
  have hA1 : t.after l 0 = t.kept l := rfl
  have hA2 : t.after l 50 = t.took := rfl
  have HA1 := Lib.hid hA1
  have HA2 := Lib.hid hA2
  clear hln hl hM hfr hsz hk hks hroom hm0 hm hin hp0 hp1 hb0 hb1 hs0 hs1 hT h hpw hA1 hA2
  have hfc := fun (z : World) (hz : Below w.heap.size w z) => run_str Try.underlying38 Try.underlying5 Try.underlying9 ((HL.out.below hz).more hz.size)
  go_enter Try.func13, Try.ntmps13
  go_wp2_with (first
    | (go_at_call 31; refine HO.out.mono ?_; rintro e w1 ⟨rfl, rfl⟩)
    | (go_at_call 23; refine HR.out.mono ?_; rintro e w1 ⟨rfl, rfl⟩)
    | fail)
  go_cut [5] (fun u wx => ∃ a, u = .pointer (some ⟨a, 0, none⟩) ∧ w.heap.size ≤ a ∧ Hid (wx.heap[a]? = some (.cells #[.int .i64 t.free, .int .u64 (t.next : Int), .string (str l)] 62 (0, 0))) ∧ Hid (Below w.heap.size w wx))
  case first =>
    refine wp_tree w.heap.size (.two [0, 2, 3, 4, 5, 6, 7] 1 9 (.one [8] 9 (.one [] 10 (.fin []))) (.one [] 1 (.one [8] 10 (.fin [])))) (by kernel_rfl) (by kernel_rfl) (fun d _ _ _ _ h => by cases d <;> exact h) fun wd hbd => ?_
    intro q hq
    have d6 := fun z => kept (hq z) c6 hlt
    have dc := fun z => hfc _ (hq z)
    simp only [pickI, Option.toList_some, List.cons_append, List.nil_append, List.getElem?_toArray, List.getElem?_cons_succ, List.getElem?_cons_zero]
    repeat (go_big_quiet_step (fail))
    refine wpQuiet_nil ?_
    clear d6 dc hq q
    refine ⟨?_, ?_⟩
    · skip
      refine seg_op (by simp only [List.getElem?_toArray, List.getElem?_cons_succ, List.getElem?_cons_zero]; rfl) fun K hK => ?_
      go_simp
      refine (HF.out _ hbd).mono ?_
      rintro e v1 ⟨rfl, bv1⟩
      have zv1 := hbd.trans (bv1.mono hbd.size)
      refine hK.out _ _ ⟨zv1, ?_⟩
      clear hK K
      intro q hq
      simp only [pickI, Option.toList_some, List.cons_append, List.nil_append, List.getElem?_toArray, List.getElem?_cons_succ, List.getElem?_cons_zero]
      repeat (go_big_quiet_step (fail))
      refine wpQuiet_nil ?_
      clear hq q
      refine seg_op (by simp only [List.getElem?_toArray, List.getElem?_cons_succ, List.getElem?_cons_zero]; rfl) fun K hK => ?_
      go_simp
      obtain ⟨v2, hv2⟩ : ∃ v, v = v1.alloc (.cells #[.int .i64 0, .int .u64 0, .string { data := #[] }] 62) := ⟨_, rfl⟩
      rw [← hv2]
      have bv2 : Below v1.heap.size v1 v2 := by rw [hv2]; exact (Below.refl _ _).alloc (Nat.le_refl _) _
      have rv2 : v2.heap[v1.heap.size]? = some (.cells #[.int .i64 0, .int .u64 0, .string { data := #[] }] 62 (0, 0)) := by rw [hv2]; exact row_here _ _ rfl
      have gv2 : w.heap.size ≤ v1.heap.size := zv1.size
      have zv2 := zv1.trans (bv2.mono zv1.size)
      refine hK.out _ _ ⟨zv2, ?_⟩
      clear hK K hv2
      intro q hq
      refine wpQuiet_nil ?_
      clear hq q
      have e0 := cell_of_row v2 _ 0 _ _ _ rv2
      have f0 := frozen_of_row v2 _ 0 _ _ rv2
      have e1 := cell_of_row v2 _ 1 _ _ _ rv2
      have f1 := frozen_of_row v2 _ 1 _ _ rv2
      have e2 := cell_of_row v2 _ 2 _ _ _ rv2
      have f2 := frozen_of_row v2 _ 2 _ _ rv2
      simp at e0 e1 e2
      refine seg_op (by simp only [List.getElem?_toArray, List.getElem?_cons_succ, List.getElem?_cons_zero]; rfl) fun K hK => ?_
      go_simp
      have zz := ((zv2.setCell (p := ⟨v1.heap.size, 0, none⟩) gv2 (.int .i64 t.free)).setCell (p := ⟨v1.heap.size, 1, none⟩) gv2 (.int .u64 (t.next : Int))).setCell (p := ⟨v1.heap.size, 2, none⟩) gv2 (.string (str l))
      have rr := setCell_row (i := 2) (v := .string (str l)) (setCell_row (i := 1) (v := .int .u64 (t.next : Int)) (setCell_row (i := 0) (v := .int .i64 t.free) rv2))
      simp at rr
      refine hK.out _ _ ⟨zz, ?_⟩
      clear hK K
      intro q hq
      refine wpQuiet_nil ?_
      clear hq q
      have ZZ := Lib.hid zz
      have RR := Lib.hid rr
      clear zz rr
      go_wp2_with (fail)
      go_meet
      case rel => exact ⟨v1.heap.size, rfl, gv2, RR, ZZ⟩
    · skip
      refine seg_op (by simp only [List.getElem?_toArray, List.getElem?_cons_succ, List.getElem?_cons_zero]; rfl) fun K hK => ?_
      go_simp
      obtain ⟨v3, hv3⟩ : ∃ v, v = wd.alloc (.cells #[.int .i64 0, .int .u64 0, .string { data := #[] }] 62) := ⟨_, rfl⟩
      rw [← hv3]
      have bv3 : Below wd.heap.size wd v3 := by rw [hv3]; exact (Below.refl _ _).alloc (Nat.le_refl _) _
      have rv3 : v3.heap[wd.heap.size]? = some (.cells #[.int .i64 0, .int .u64 0, .string { data := #[] }] 62 (0, 0)) := by rw [hv3]; exact row_here _ _ rfl
      have gv3 : w.heap.size ≤ wd.heap.size := hbd.size
      have zv3 := hbd.trans (bv3.mono hbd.size)
      refine hK.out _ _ ⟨zv3, ?_⟩
      clear hK K hv3
      intro q hq
      refine wpQuiet_nil ?_
      clear hq q
      refine seg_op (by simp only [List.getElem?_toArray, List.getElem?_cons_succ, List.getElem?_cons_zero]; rfl) fun K hK => ?_
      go_simp
      refine (HF.out _ zv3).mono ?_
      rintro e v4 ⟨rfl, bv4⟩
      have zv4 := zv3.trans (bv4.mono zv3.size)
      have rv4 := (bv4.block _ (Array.getElem?_eq_some_iff.1 rv3).1).trans rv3
      refine hK.out _ _ ⟨zv4, ?_⟩
      clear hK K
      intro q hq
      simp only [pickI, Option.toList_some, List.cons_append, List.nil_append, List.getElem?_toArray, List.getElem?_cons_succ, List.getElem?_cons_zero]
      repeat (go_big_quiet_step (fail))
      refine wpQuiet_nil ?_
      clear hq q
      have e0 := cell_of_row v4 _ 0 _ _ _ rv4
      have f0 := frozen_of_row v4 _ 0 _ _ rv4
      have e1 := cell_of_row v4 _ 1 _ _ _ rv4
      have f1 := frozen_of_row v4 _ 1 _ _ rv4
      have e2 := cell_of_row v4 _ 2 _ _ _ rv4
      have f2 := frozen_of_row v4 _ 2 _ _ rv4
      simp at e0 e1 e2
      refine seg_op (by simp only [List.getElem?_toArray, List.getElem?_cons_succ, List.getElem?_cons_zero]; rfl) fun K hK => ?_
      go_simp
      have zz := ((zv4.setCell (p := ⟨wd.heap.size, 0, none⟩) gv3 (.int .i64 t.free)).setCell (p := ⟨wd.heap.size, 1, none⟩) gv3 (.int .u64 (t.next : Int))).setCell (p := ⟨wd.heap.size, 2, none⟩) gv3 (.string (str l))
      have rr := setCell_row (i := 2) (v := .string (str l)) (setCell_row (i := 1) (v := .int .u64 (t.next : Int)) (setCell_row (i := 0) (v := .int .i64 t.free) rv4))
      simp at rr
      refine hK.out _ _ ⟨zz, ?_⟩
      clear hK K
      intro q hq
      refine wpQuiet_nil ?_
      clear hq q
      have ZZ := Lib.hid zz
      have RR := Lib.hid rr
      clear zz rr
      go_wp2_with (fail)
      go_meet
      case rel => exact ⟨wd.heap.size, rfl, gv3, RR, ZZ⟩
  case rest =>
    obtain ⟨a, rfl, ha, RA, ZB⟩ := hcut
    generalize wc = Y at *
    have c6 := kept ZB.out c6 hlt
    have hTY := HT.out.below ZB.out
    have f6 : Y.frozen? ⟨T, 6, none⟩ = false := frozen_of_row Y T 6 _ _ hTY
    have hTV := hTY.took
    obtain ⟨nx, hnx⟩ : ∃ nx, nx = (t.next + 1) % 18446744073709551616 := ⟨_, rfl⟩
    have e1 : IntKind.u64.wrap ((t.next : Int) + 1) = (nx : Int) := by rw [hnx]; simp [IntKind.wrap, IntKind.signed, IntKind.bits]
    rw [← hnx] at hTV
    have hkV := keeps_set Y T 6 (.int .u64 (nx : Int))
    obtain ⟨V, hV⟩ : ∃ V, V = Y.setCell ⟨T, 6, none⟩ (.int .u64 (nx : Int)) := ⟨_, rfl⟩
    rw [← hV] at hTV hkV
    have hne : a ≠ T := by omega
    have rV := hkV.row RA.out hne
    have k0 : V.cell? ⟨a, 0, none⟩ = some (.int .i64 t.free) := cell_of_row V a 0 _ _ _ rV
    have k1 : V.cell? ⟨a, 1, none⟩ = some (.int .u64 (t.next : Int)) := cell_of_row V a 1 _ _ _ rV
    have k2 : V.cell? ⟨a, 2, none⟩ = some (.string (str l)) := cell_of_row V a 2 _ _ _ rV
    have HOV := Lib.hid (((HOW.out.mono (Nat.le_refl M) (N' := fun i => N i ∧ i < w.heap.size) (fun i hi hn => ⟨hn, hi⟩)).below ZB.out).keeps hkV (fun i hi _ h => hTN (hi ▸ h.1)))
    have HTV := Lib.hid hTV
    have HKV := Lib.hid hkV
    have HV := Lib.hid hV
    have HRV := Lib.hid rV
    clear hfc hTY hTV hkV hV rV hnx
    rcases HPW.out with rfl | rfl
    · go_wp2_with (first
        | (go_at_call 33; (try rw [← HV.out]); refine (HWr.out V t.took HOV.out HTV.out rfl rfl).mono ?_; rintro e w5 ⟨rfl, hO5, hk5⟩
           have hT5 : Tw w5 T (some ⟨g, 0, none⟩) t.took := hk5.row HTV.out (fun h => hTN h.1)
           have rA5 := hk5.row HRV.out (fun h => absurd h.2 (Nat.not_lt.2 ha))
           have k0 := cell_of_row w5 a 0 _ _ _ rA5
           have k1 := cell_of_row w5 a 1 _ _ _ rA5
           have k2 := cell_of_row w5 a 2 _ _ _ rA5
           simp at k0 k1 k2
           have m3 := hT5.c3
           have m4 := hT5.c4
           have m5 := hT5.c5
           have g3 : w5.frozen? ⟨T, 3, none⟩ = false := frozen_of_row w5 T 3 _ _ hT5
           have g4 : w5.frozen? ⟨T, 4, none⟩ = false := frozen_of_row w5 T 4 _ _ hT5
           have g5 : w5.frozen? ⟨T, 5, none⟩ = false := frozen_of_row w5 T 5 _ _ hT5
           have HT5 := Lib.hid hT5
           have HO5 := Lib.hid hO5
           have HK5 := Lib.hid hk5
           clear rA5 hT5 hO5 hk5)
        | (rw [← HV.out])
        | fail)
      go_ret
      rw [HA1.out]
      have hsV : w.heap.size ≤ V.heap.size := Nat.le_trans ZB.out.size HKV.out.size
      have kS := ((keeps_set w5 T 3 (.int .i64 t.free)).trans (keeps_set _ T 4 (.int .u64 (t.next : Int))) (fun i h => .inl h)).trans (keeps_set _ T 5 (.string (str l))) (fun i h => .inl h)
      refine ⟨rfl, (HO5.out.keeps kS (fun i hi _ h => ?_)).mono (Nat.le_refl _) (fun i _ h => h.imp (fun h => h.1) (fun h => Nat.le_trans hsV h)), HT5.out.set t.free t.next l, ?_⟩
      · subst hi
        rcases h with h | h
        · exact hTN h.1
        · omega
      · exact (((Keeps.of_below ZB.out).trans HKV.out (fun i h => .inl (.inr h))).trans HK5.out (fun i h => .inl (.inl h.1))).trans kS (fun i h => .inl (.inr h))
    · go_wp2_with (first
        | (go_at_call 33; (try rw [← HV.out]); refine (HWr.out V t.took HOV.out HTV.out rfl rfl).mono ?_; rintro e w5 ⟨rfl, hO5, hk5⟩
           have HO5 := Lib.hid hO5
           have HK5 := Lib.hid hk5
           clear hO5 hk5)
        | (rw [← HV.out])
        | fail)
      go_ret
      rw [HA2.out]
      have hsV : w.heap.size ≤ V.heap.size := Nat.le_trans ZB.out.size HKV.out.size
      exact ⟨rfl, HO5.out.mono (Nat.le_refl _) (fun i _ h => h.imp (fun h => h.1) (fun h => Nat.le_trans hsV h)), HK5.out.row HTV.out (fun h => hTN h.1), ((Keeps.of_below ZB.out).trans HKV.out (fun i h => .inl (.inr h))).trans HK5.out (fun i h => .inl (.inl h.1))⟩

end Go.Proofs.Ytddnjlnhnnpgiaa

namespace Go.Proofs.Ytddnjlnhnnpgiaa
set_option maxRecDepth 20000
open Go.RowKit

/-- What the device refuses is refused. -/
theorem twopen_refused {w : World} (G : Option Addr) (base size : Int) (E : Int) (hE : E ≠ 0)
    (HR : ∀ s : Int, s = IntKind.i64.wrap (2 * min size 65536) → Calls Try.prog 24 #[.pointer G, .int .i64 base, .int .i64 s] w fun e w' => e = .returned (.tuple #[.slice none 0 0, .int .i64 E]) ∧ w = w') :
    Calls Try.prog 10 #[.pointer G, .int .i64 base, .int .i64 size] w fun e w' => e = .returned (.tuple #[.pointer none, .int .i64 E]) ∧ w = w' := by
  obtain ⟨s1, hs1⟩ : ∃ s, s = min size 65536 := ⟨_, rfl⟩
  have e2 : min size (65536 : Int) = s1 := hs1.symm
  obtain ⟨s2, hs2⟩ : ∃ s, s = IntKind.i64.wrap (2 * s1) := ⟨_, rfl⟩
  have e3 : IntKind.i64.wrap (2 * s1) = s2 := hs2.symm
  have e4 : (2 * s1 + 9223372036854775808) % 18446744073709551616 - 9223372036854775808 = s2 := by rw [hs2]; simp [IntKind.wrap, IntKind.signed, IntKind.bits]; split <;> omega
  have HRR := Lib.hid (HR s2 (by rw [hs2, hs1]))
  have q1 : (E == 0) = false := by simpa using hE
  have q2 : (E != 0) = true := by simpa using hE
  clear HR hs1 hs2
  go_enter Try.func10, Try.ntmps10
  go_wp2_with (first
    | (go_at_call 24; refine HRR.out.mono ?_; rintro e w1 ⟨rfl, rfl⟩)
    | fail)
  go_ret2
  exact ⟨rfl, rfl⟩

end Go.Proofs.Ytddnjlnhnnpgiaa
