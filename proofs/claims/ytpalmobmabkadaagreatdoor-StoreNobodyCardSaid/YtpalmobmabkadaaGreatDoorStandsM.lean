/- A twin: what is to be saved is made safe. A twin: what is saved. A twin: what is saved, where there is room. twin.Open, where there is no twin. What a save leaves behind a crash: of each sector that was to be written a beginning, of all others what they were. A twin stands on a calm device: behind each save, and each crash in one, what was saved last is what it was, or what was to be saved. -/
import Derived.Test.YtpalmobmabkadaaGreatDoorOwnZM
import Derived.Test.YtpalmobmabkadaaGreatDoorMbitsM
import Derived.BigRegion
import Derived.Deep.DeepCutAuto
import Derived.Deep.CutBlock
namespace Go.Proofs.YtpalmobmabkadaaGreatDoor
set_option maxRecDepth 20000
open Go.RowKit

/-- What becomes of a device at which a frame is written and made safe, and what is told. -/
def Dv.save (d : Dv) (x : Int) (m : Nat) (l : List UInt8) : Dv × Int :=
  if d.down = true then (d, 50) else
  if (d.write x (makeOf m l) (sectorsOf l.length)).2 ≠ 0 then d.write x (makeOf m l) (sectorsOf l.length) else
  (d.write x (makeOf m l) (sectorsOf l.length)).1.flush

set_option maxHeartbeats 4000000 in
theorem twwrite_any {w : World} {B g M T : Nat} {N : Nat → Prop} {d : Dv} {t : Tv} (h : Own w B g N M d) (hM : M ≤ 90000) (hT : Tw w T (some ⟨g, 0, none⟩) t) (hTN : ¬ N T)
    (p : Int) (m : Nat) (l : List UInt8) (x : Int) (hx : x = t.base + p * t.size) (hp0 : 0 ≤ p) (hp1 : p ≤ 1) (hb0 : 0 ≤ t.base) (hb1 : t.base ≤ 1000000) (hs0 : 0 ≤ t.size) (hs1 : t.size ≤ 1000) (hl : l.length ≤ 3000) (hm0 : 0 < m) (hm : m < 18446744073709551616) (hxn : x + sectorsOf l.length ≤ d.n) :
    Calls Tryz.prog 100 #[.pointer (some ⟨T, 0, none⟩), .agg #[.int .i64 p, .int .u64 (m : Int), .string (str l)]] w fun e w' => e = .returned (.int .i64 (d.save x m l).2) ∧ Left w B g N (M + 80) (d.save x m l).1 w' := by
  obtain ⟨W, hW⟩ : ∃ W, W = w.alloc (.cells #[.int .i64 p, .int .u64 (m : Int), .string (str l)] 126) := ⟨_, rfl⟩
  have hbW : Below w.heap.size w W := by rw [hW]; exact (Below.refl _ _).alloc (Nat.le_refl _) _
  have hzW : W.heap.size = w.heap.size + 1 := by rw [hW]; simp
  have rW : W.heap[w.heap.size]? = some (.cells #[.int .i64 p, .int .u64 (m : Int), .string (str l)] 126 (0, 0)) := by rw [hW]; exact row_here _ _ rfl
  have hk2 := sectorsOf_at _ (show l.length ≤ 65536 by omega)
  obtain ⟨K, hK0⟩ : ∃ k, k = sectorsOf (l.length : Int) := ⟨_, rfl⟩
  obtain ⟨n3, hn3⟩ : ∃ n, n = 64 * K := ⟨_, rfl⟩
  obtain ⟨y, hy⟩ : ∃ y, y = p * t.size := ⟨_, rfl⟩
  have hy0 : 0 ≤ y ∧ y ≤ 1000 := by
    rcases (show p = 0 ∨ p = 1 by omega) with h | h
    · rw [hy, h]; omega
    · rw [hy, h]; omega
  have hmk := makeOf_len m l (by omega)
  rw [← hK0] at hk2 hxn hmk
  rw [← hn3] at hmk
  have hsv : d.save x m l = if d.down = true then (d, 50) else if (d.write x (makeOf m l) K).2 ≠ 0 then d.write x (makeOf m l) K else (d.write x (makeOf m l) K).1.flush := by rw [hK0]; rfl
  have hMk := fun (W1 : World) (A : Option Addr) (c : Nat) (h : Rd W1 W1.heap.size 1 A l.length c (u8s l)) => make_good m A l.length c l W1 h (by omega) hm0 hm
  rw [← hK0, ← hn3] at hMk
  generalize makeOf m l = L at *
  have k0 := cell_of_row W _ 0 _ _ _ rW
  have k1 := cell_of_row W _ 1 _ _ _ rW
  have k2 := cell_of_row W _ 2 _ _ _ rW
  simp at k0 k1 k2
  have HMK := Lib.hid hMk
  have HL := Lib.hid hl
  have HB := Lib.hid hbW
  have HZ := Lib.hid hzW
  have HR := Lib.hid rW
  have HW := Lib.hid hW
  have HO := Lib.hid h
  have HT := Lib.hid hT
  have HX := Lib.hid hx
  have HS := Lib.hid (And.intro hs0 hs1)
  have HBB := Lib.hid (And.intro hb0 hb1)
  have HP := Lib.hid (And.intro hp0 hp1)
  have HM := Lib.hid (And.intro hm0 hm)
  have HXN := Lib.hid hxn
  have HK := Lib.hid (And.intro hk2 hn3)
  have HY := Lib.hid hy0
  have HSV := Lib.hid hsv
  have HLL := Lib.hid hmk
  have e1 : p * t.size = y := hy.symm
  have e2 : t.base + y = x := by rw [hx, hy]
  have c0 := hT.c0
  have c1 := hT.c1
  have c2 := hT.c2
  have hTlt := hT.lt
  clear hk2 hn3 hy0 hy hK0 hsv hmk hMk hbW hzW rW hW h hT hl hx hs0 hs1 hb0 hb1 hp0 hp1 hm0 hm hxn
  go_enter Tryz.func100, Tryz.ntmps100
  go_wp2_with (first
    | (rw [← HW.out]; refine wpL_strb (o := ⟨some 13, _, _, _, _, _⟩) rfl (.tmp 12) _ _ rfl Tryz.underlying9 Tryz.underlying86 Tryz.underlying5 rfl (by have := HL.out; unfold maxLen; omega) ?_; intro W1 A cap hrd hfar hb1)
    | (go_at_call 124; refine (HMK.out _ _ _ hrd).mono ?_; rintro e w3 ⟨v3, rfl, hown3, hb3⟩)
    | fail)
  have hbW1 : Below w.heap.size w W1 := HB.out.trans (hb1.mono HB.out.size)
  have hb03 : Below w.heap.size w w3 := hbW1.trans (hb3.mono hbW1.size)
  obtain ⟨q, c3, rfl, hq3, hrd3⟩ : ∃ b c, v3 = .slice (some ⟨b, 0, none⟩) n3 c ∧ w.heap.size ≤ b ∧ Rd w3 w3.heap.size 1 (some ⟨b, 0, none⟩) n3 c (u8s L) := by
    rcases hown3.2 with ⟨_, h0⟩ | ⟨g', cap, cur, rfl, hb, _⟩
    · have := HK.out; omega
    · exact ⟨g', cap, rfl, Nat.le_trans hbW1.size hb, ownsRow_rd hown3⟩
  have k0 : w3.cell? ⟨w.heap.size, 0, none⟩ = some (.int .i64 p) := by
    have hz := HZ.out
    exact kept (hb1.trans (hb3.mono hb1.size)) k0 (by omega)
  have c0 := kept hb03 c0 hTlt
  have c1 := kept hb03 c1 hTlt
  have c2 := kept hb03 c2 hTlt
  have O3 := Lib.hid ((HO.out.mono (Nat.le_refl M) (N' := fun i => N i ∧ i < w.heap.size) (fun i hi hn => ⟨hn, hi⟩)).below hb03)
  have HB03 := Lib.hid hb03
  have HRD3 := Lib.hid hrd3
  clear k1 k2 hown3 hb3 hb1 hrd hfar hrd3 hb03 hbW1
  generalize t.base = b0 at *
  generalize t.size = s0 at *
  obtain ⟨hy0, hy1⟩ := HY.out
  have hx0 : 0 ≤ x := by have := HBB.out.1; omega
  have hx1 : x ≤ 2000000 := by have := HBB.out.2; omega
  have HM9 := Lib.hid hM
  clear hM
  cases hd : d.down with
  | true =>
    have HD := Lib.hid hd
    clear hd
    refine wp_keeps (fun i => N i ∧ i < w.heap.size) [([0, 1, 2, 3, 4, 5, 6, 7, 8, 9, 10, 11, 12, 13, 14, 15, 16], 17)] [18] (by kernel_rfl) (by kernel_rfl) (fun d _ _ _ _ h => by cases d <;> exact h) fun wd hbd => ?_
    intro f hf
    have d0 := fun z => (hf z).cell c0 (fun h => hTN h.1)
    have d1 := fun z => (hf z).cell c1 (fun h => hTN h.1)
    have d2 := fun z => (hf z).cell c2 (fun h => hTN h.1)
    have d3 := fun z => (hf z).cell k0 (fun h => Nat.lt_irrefl _ h.2)
    simp only [pickI, Option.toList_some, List.cons_append, List.nil_append, List.getElem?_toArray, List.getElem?_cons_succ, List.getElem?_cons_zero]
    repeat (go_big_quiet_step (fail))
    refine wpQuiet_nil ?_
    clear d0 d1 d2 d3 hf f
    refine seg_op (by simp only [List.getElem?_toArray, List.getElem?_cons_succ, List.getElem?_cons_zero]; rfl) fun KK hKK => ?_
    go_simp
    refine (own_write_down (O3.out.below hbd) HD.out x _ _ _).mono ?_
    rintro e w4 ⟨rfl, hb4⟩
    have hb34 := hbd.trans (hb4.mono hbd.size)
    have hk4 : Keeps (fun i => N i ∧ i < w.heap.size) w3 w4 := Keeps.of_below hb34
    refine hKK.out _ _ (seg_keep hk4 ?_)
    have HB4 := Lib.hid (HB03.out.trans (hb34.mono HB03.out.size))
    clear hKK KK hb34 hk4 hb4 hbd
    intro f hf
    simp only [pickI, Option.toList_some, List.cons_append, List.nil_append, List.getElem?_toArray, List.getElem?_cons_succ, List.getElem?_cons_zero]
    repeat (go_big_quiet_step (fail))
    refine wpQuiet_nil ?_
    clear hf f
    go_wp2_with (fail)
    go_ret
    rw [HSV.out, if_pos HD.out]
    exact ⟨rfl, (HO.out.below HB4.out).mono (by omega) (fun i _ h => .inl h), Keeps.of_below HB4.out⟩
  | false =>
    have HD := Lib.hid hd
    clear hd
    refine wp_keeps (fun i => N i ∧ i < w.heap.size) [([0, 1, 2, 3, 4, 5, 6, 7, 8, 9, 10, 11, 12, 13, 14, 15, 16], 17)] [18] (by kernel_rfl) (by kernel_rfl) (fun d _ _ _ _ h => by cases d <;> exact h) fun wd hbd => ?_
    intro f hf
    have d0 := fun z => (hf z).cell c0 (fun h => hTN h.1)
    have d1 := fun z => (hf z).cell c1 (fun h => hTN h.1)
    have d2 := fun z => (hf z).cell c2 (fun h => hTN h.1)
    have d3 := fun z => (hf z).cell k0 (fun h => Nat.lt_irrefl _ h.2)
    simp only [pickI, Option.toList_some, List.cons_append, List.nil_append, List.getElem?_toArray, List.getElem?_cons_succ, List.getElem?_cons_zero]
    repeat (go_big_quiet_step (fail))
    refine wpQuiet_nil ?_
    clear d0 d1 d2 d3 hf f
    refine seg_op (by simp only [List.getElem?_toArray, List.getElem?_cons_succ, List.getElem?_cons_zero]; rfl) fun KK hKK => ?_
    go_simp
    have hWr := own_write (O3.out.below hbd) (by have := HM9.out; omega) HD.out x (some ⟨q, 0, none⟩) n3 c3 L ((HRD3.out.below hbd).more hbd.size) (fun _ b o e h => by cases e; have := h.2; omega) hx0 (by have := HXN.out; have := HK.out.2; omega) (by have := HK.out; have := HL.out; omega)
    rw [show (n3 + 63) / 64 = K by have := HK.out.2; omega] at hWr
    have hpw := Dv.write_pw d x L K
    have hsv := HSV.out
    rw [if_neg (by rw [HD.out]; decide)] at hsv
    have HS2 := Lib.hid hsv
    clear hsv HSV
    generalize d.write x L K = r at *
    obtain ⟨d1, er⟩ := r
    dsimp only at hWr hpw HS2
    refine hWr.mono ?_
    rintro e w4 ⟨rfl, hO4, hk4⟩
    have hk34 : Keeps (fun i => N i ∧ i < w.heap.size) w3 w4 := (Keeps.of_below hbd).trans hk4 (fun i h => .inl h)
    refine hKK.out _ _ (seg_keep hk34 ?_)
    have c0 := hk34.cell c0 (fun h => hTN h.1)
    have hkw4 : Keeps N w w4 := (Keeps.of_below HB03.out).trans hk34 (fun i h => .inl h.1)
    have hO4' : Own w4 B g (fun i => N i ∧ i < w.heap.size ∨ w3.heap.size ≤ i) (M + 64) d1 := hO4.mono (Nat.le_refl _) (fun i _ h => h.imp id (fun h => Nat.le_trans hbd.size h))
    have HO4 := Lib.hid hO4'
    have HK4 := Lib.hid hkw4
    clear hKK KK hWr hO4 hO4' hk4 hk34 hkw4 hbd
    intro f hf
    simp only [pickI, Option.toList_some, List.cons_append, List.nil_append, List.getElem?_toArray, List.getElem?_cons_succ, List.getElem?_cons_zero]
    repeat (go_big_quiet_step (fail))
    refine wpQuiet_nil ?_
    clear hf f
    rcases hpw with rfl | rfl
    · go_wp2_with (first
        | (go_at_call 59; refine (own_flush HO4.out (by have := HM9.out; omega)).mono ?_; rintro e w5 ⟨rfl, hO5, hk5⟩)
        | fail)
      go_ret
      rw [HS2.out, if_neg (by decide)]
      have hs3 := HB03.out.size
      have hs4 := HK4.out.size
      refine ⟨rfl, hO5.mono (by omega) (fun i _ h => ?_), HK4.out.trans hk5 (fun i h => h.imp (fun h => h.1) (fun h => Nat.le_trans hs3 h))⟩
      rcases h with (h | h) | h
      · exact .inl h.1
      · exact .inr (Nat.le_trans hs3 h)
      · exact .inr (Nat.le_trans hs4 h)
    · go_wp2_with (fail)
      go_ret
      rw [HS2.out, if_pos (by decide)]
      exact ⟨rfl, HO4.out.mono (by omega) (fun i _ h => h.imp (fun h => h.1) (fun h => Nat.le_trans HB03.out.size h)), HK4.out⟩

end Go.Proofs.YtpalmobmabkadaaGreatDoor

namespace Go.Proofs.YtpalmobmabkadaaGreatDoor
set_option maxRecDepth 20000
open Go.RowKit

theorem twsave_nil (A : Option Addr) (n c : Nat) (w : World) : Calls Tryz.prog 60 #[.pointer none, .slice A n c] w fun e w' => e = .returned (.int .i64 1) ∧ w = w' := by
  go_enter Tryz.func60, Tryz.ntmps60
  go_wp2_with (first
    | (go_at_call 97; refine (topen_nil _).mono ?_; rintro e w1 ⟨rfl, rfl⟩)
    | fail)
  go_ret
  exact ⟨rfl, rfl⟩
theorem twsave_bare {w : World} {T : Nat} {t : Tv} (h : Tw w T none t) (A : Option Addr) (n c : Nat) : Calls Tryz.prog 60 #[.pointer (some ⟨T, 0, none⟩), .slice A n c] w fun e w' => e = .returned (.int .i64 1) ∧ w = w' := by
  have HO := Lib.hid (topen_bare h)
  clear h
  go_enter Tryz.func60, Tryz.ntmps60
  go_wp2_with (first
    | (go_at_call 97; refine HO.out.mono ?_; rintro e w1 ⟨rfl, rfl⟩)
    | fail)
  go_ret
  exact ⟨rfl, rfl⟩
theorem twsave_long {w : World} {T : Nat} {g : Addr} {t : Tv} (h : Tw w T (some g) t) (h0 : 0 ≤ t.size) (h1 : t.size ≤ 65536) (A : Option Addr) (n c : Nat) (hn : t.room < n) (_ : n ≤ maxLen) : Calls Tryz.prog 60 #[.pointer (some ⟨T, 0, none⟩), .slice A n c] w fun e w' => e = .returned (.int .i64 11) ∧ w = w' := by
  have HO := Lib.hid (topen_any h)
  have HR := Lib.hid (twroom_any h h0 h1)
  have q1 : decide (t.room < (n : Int)) = true := by simpa using hn
  have q2 : t.room < (n : Int) := hn
  generalize t.room = r at *
  clear h h0 h1 hn
  go_enter Tryz.func60, Tryz.ntmps60
  go_wp2_with (first
    | (go_at_call 97; refine HO.out.mono ?_; rintro e w1 ⟨rfl, rfl⟩)
    | (go_at_call 98; refine HR.out.mono ?_; rintro e w1 ⟨rfl, rfl⟩)
    | fail)
  go_ret
  exact ⟨rfl, rfl⟩
theorem twsave_full {w : World} {T : Nat} {g : Addr} {t : Tv} (h : Tw w T (some g) t) (h0 : 0 ≤ t.size) (h1 : t.size ≤ 65536) (A : Option Addr) (n c : Nat) (hn : n ≤ t.room) (hz : t.next = 0) : Calls Tryz.prog 60 #[.pointer (some ⟨T, 0, none⟩), .slice A n c] w fun e w' => e = .returned (.int .i64 31) ∧ w = w' := by
  have HO := Lib.hid (topen_any h)
  have HR := Lib.hid (twroom_any h h0 h1)
  have q1 : decide (t.room < (n : Int)) = false := by simpa using hn
  have q2 : ¬ t.room < (n : Int) := by omega
  have c6 := h.c6
  rw [hz] at c6
  generalize t.room = r at *
  clear h h0 h1 hn hz
  go_enter Tryz.func60, Tryz.ntmps60
  go_wp2_with (first
    | (go_at_call 97; refine HO.out.mono ?_; rintro e w1 ⟨rfl, rfl⟩)
    | (go_at_call 98; refine HR.out.mono ?_; rintro e w1 ⟨rfl, rfl⟩)
    | fail)
  go_ret
  exact ⟨rfl, rfl⟩

end Go.Proofs.YtpalmobmabkadaaGreatDoor

namespace Go.Proofs.YtpalmobmabkadaaGreatDoor
set_option maxRecDepth 20000
open Go.RowKit

theorem Dv.save_pw (d : Dv) (x : Int) (m : Nat) (l : List UInt8) : (d.save x m l).2 = 0 ∨ (d.save x m l).2 = 50 := by
  unfold Dv.save
  split
  · exact .inr rfl
  · split
    · rename_i h
      rcases Dv.write_pw d x (makeOf m l) (sectorsOf l.length) with e | e
      · exact absurd e h
      · exact .inr e
    · unfold Dv.flush
      split
      · exact .inr rfl
      · split
        · exact .inr rfl
        · exact .inl rfl
/-- The next number is taken, whatever becomes of it. -/
def Tv.took (t : Tv) : Tv := { t with next := (t.next + 1) % 18446744073709551616 }
/-- What is saved is the last. -/
def Tv.kept (t : Tv) (l : List UInt8) : Tv := { t with place := t.free, number := t.next, text := l, next := (t.next + 1) % 18446744073709551616 }
def Tv.after (t : Tv) (l : List UInt8) (e : Int) : Tv := if e = 0 then t.kept l else t.took

theorem Tw.set {w : World} {T : Nat} {g : Option Addr} {t : Tv} (h : Tw w T g t) (x : Int) (y : Nat) (z : List UInt8) : Tw (((w.setCell ⟨T, 3, none⟩ (.int .i64 x)).setCell ⟨T, 4, none⟩ (.int .u64 (y : Int))).setCell ⟨T, 5, none⟩ (.string (str z))) T g { t with place := x, number := y, text := z } := by
  have r := setCell_row (i := 5) (v := .string (str z)) (setCell_row (i := 4) (v := .int .u64 (y : Int)) (setCell_row (i := 3) (v := .int .i64 x) h))
  unfold Tw
  simp [twRow] at r ⊢
  exact r
theorem Tw.took {w : World} {T : Nat} {g : Option Addr} {t : Tv} (h : Tw w T g t) : Tw (w.setCell ⟨T, 6, none⟩ (.int .u64 (((t.next + 1) % 18446744073709551616 : Nat) : Int))) T g t.took := by
  have r := setCell_row (i := 6) (v := .int .u64 (((t.next + 1) % 18446744073709551616 : Nat) : Int)) h
  unfold Tw
  simp [twRow, Tv.took] at r ⊢
  exact r
theorem keeps_set (w : World) (T i : Nat) (v : Value) : Keeps (fun j => j = T) w (w.setCell ⟨T, i, none⟩ v) := Keeps.one (setCell_grows w T i v)

set_option maxHeartbeats 4000000 in
theorem twsave_ok {w : World} {B g M T : Nat} {N : Nat → Prop} {d : Dv} {t : Tv} (h : Own w B g N M d) (hM : M ≤ 90000) (hT : Tw w T (some ⟨g, 0, none⟩) t) (hTN : ¬ N T)
    (A : Option Addr) (n c : Nat) (l : List UInt8) (hl : Rd w w.heap.size 1 A n c (u8s l)) (hn : n ≤ 3000) (hp0 : 0 ≤ t.place) (hp1 : t.place ≤ 1) (hb0 : 0 ≤ t.base) (hb1 : t.base ≤ 1000000) (hs0 : 0 ≤ t.size) (hs1 : t.size ≤ 1000)
    (hroom : n ≤ t.room) (hm0 : 0 < t.next) (hm : t.next < 18446744073709551616) (hin : t.base + 2 * t.size ≤ d.n) :
    Calls Tryz.prog 60 #[.pointer (some ⟨T, 0, none⟩), .slice A n c] w fun e w' => e = .returned (.int .i64 (d.save (t.base + t.free * t.size) t.next l).2)
      ∧ Own w' B g (fun i => N i ∨ w.heap.size ≤ i) (M + 80) (d.save (t.base + t.free * t.size) t.next l).1 ∧ Tw w' T (some ⟨g, 0, none⟩) (t.after l (d.save (t.base + t.free * t.size) t.next l).2) ∧ Keeps (fun i => N i ∨ i = T) w w' := by
  have hln : l.length = n := by have := hl.len; rwa [u8s_len] at this
  have HO := Lib.hid (topen_any hT)
  have HR := Lib.hid (twroom_any hT hs0 (by omega))
  have HF := Lib.hid (fun (W : World) (hW : Below w.heap.size w W) => (twfree_any (hT.below hW) hp0 hp1).mono (fun e w' hh => (⟨hh.1, by rw [hh.2]; exact Below.refl _ _⟩ : e = .returned (.int .i64 t.free) ∧ Below W.heap.size W w')))
  have hfr : 0 ≤ t.free ∧ t.free ≤ 1 := by unfold Tv.free; split <;> omega
  have hsz : t.free * t.size + t.size ≤ 2 * t.size ∧ 0 ≤ t.free * t.size := by
    rcases (show t.free = 0 ∨ t.free = 1 by omega) with e | e
    · rw [e]; omega
    · rw [e]; omega
  have hk := sectorsOf_at _ (show l.length ≤ 65536 by omega)
  have hks : (sectorsOf (l.length : Int) : Int) ≤ t.size := by
    have : t.room = min (t.size * 48 - 8) 65536 := rfl
    omega
  have HWr := Lib.hid (fun (W : World) (t' : Tv) (hO : Own W B g (fun i => N i ∧ i < w.heap.size) M d) (hT' : Tw W T (some ⟨g, 0, none⟩) t') (hb : t'.base = t.base) (hs : t'.size = t.size) =>
    twwrite_any hO hM hT' (fun h => hTN h.1) t.free t.next l (t.base + t.free * t.size) (by rw [hb, hs]) hfr.1 hfr.2 (by omega) (by omega) (by omega) (by omega) (by omega) hm0 hm (by omega))
  have hpw := Dv.save_pw d (t.base + t.free * t.size) t.next l
  generalize d.save (t.base + t.free * t.size) t.next l = r at *
  obtain ⟨d1, er⟩ := r
  dsimp only at HWr hpw ⊢
  have q1 : decide (t.room < (n : Int)) = false := by simpa using hroom
  have q2 : ¬ t.room < (n : Int) := by omega
  have q3 : (t.next == 0) = false := by simp; omega
  have q4 : ((t.next : Int) == 0) = false := by simp; omega
  have c6 := hT.c6
  have hlt := hT.lt
  have HT := Lib.hid hT
  have HOW := Lib.hid h
  have HL := Lib.hid hl
  have HNX := Lib.hid (And.intro hm0 hm)
  have HPW := Lib.hid hpw
  have hA1 : t.after l 0 = t.kept l := rfl
  have hA2 : t.after l 50 = t.took := rfl
  have HA1 := Lib.hid hA1
  have HA2 := Lib.hid hA2
  clear hln hl hM hfr hsz hk hks hroom hm0 hm hin hp0 hp1 hb0 hb1 hs0 hs1 hT h hpw hA1 hA2
  have hfc := fun (z : World) (hz : Below w.heap.size w z) => run_str Tryz.underlying86 Tryz.underlying5 Tryz.underlying9 ((HL.out.below hz).more hz.size)
  go_enter Tryz.func60, Tryz.ntmps60
  go_wp2_with (first
    | (go_at_call 97; refine HO.out.mono ?_; rintro e w1 ⟨rfl, rfl⟩)
    | (go_at_call 98; refine HR.out.mono ?_; rintro e w1 ⟨rfl, rfl⟩)
    | fail)
  go_cut [5] (fun u wx => ∃ a, u = .pointer (some ⟨a, 0, none⟩) ∧ w.heap.size ≤ a ∧ Hid (wx.heap[a]? = some (.cells #[.int .i64 t.free, .int .u64 (t.next : Int), .string (str l)] 126 (0, 0))) ∧ Hid (Below w.heap.size w wx))
  case first =>
    refine wp_tree w.heap.size (.two [0, 2, 3, 4, 5, 6, 7] 1 9 (.one [8] 9 (.one [] 10 (.fin []))) (.one [] 1 (.one [8] 10 (.fin [])))) (by kernel_rfl) (by kernel_rfl) (fun d _ _ _ _ h => by cases d <;> exact h) fun wd hbd => ?_
    intro q hq
    have d6 := fun z => kept (hq z) c6 hlt
    have dc := fun z => hfc _ (hq z)
    simp only [pickI, Option.toList_some, List.cons_append, List.nil_append, List.getElem?_toArray, List.getElem?_cons_succ, List.getElem?_cons_zero]
    repeat (go_big_quiet_step (fail))
    refine wpQuiet_nil ?_
    clear d6 dc hq q
    refine ⟨?_, ?_⟩
    · skip
      refine seg_op (by simp only [List.getElem?_toArray, List.getElem?_cons_succ, List.getElem?_cons_zero]; rfl) fun K hK => ?_
      go_simp
      refine (HF.out _ hbd).mono ?_
      rintro e v1 ⟨rfl, bv1⟩
      have zv1 := hbd.trans (bv1.mono hbd.size)
      refine hK.out _ _ ⟨zv1, ?_⟩
      clear hK K
      intro q hq
      simp only [pickI, Option.toList_some, List.cons_append, List.nil_append, List.getElem?_toArray, List.getElem?_cons_succ, List.getElem?_cons_zero]
      repeat (go_big_quiet_step (fail))
      refine wpQuiet_nil ?_
      clear hq q
      refine seg_op (by simp only [List.getElem?_toArray, List.getElem?_cons_succ, List.getElem?_cons_zero]; rfl) fun K hK => ?_
      go_simp
      obtain ⟨v2, hv2⟩ : ∃ v, v = v1.alloc (.cells #[.int .i64 0, .int .u64 0, .string { data := #[] }] 126) := ⟨_, rfl⟩
      rw [← hv2]
      have bv2 : Below v1.heap.size v1 v2 := by rw [hv2]; exact (Below.refl _ _).alloc (Nat.le_refl _) _
      have rv2 : v2.heap[v1.heap.size]? = some (.cells #[.int .i64 0, .int .u64 0, .string { data := #[] }] 126 (0, 0)) := by rw [hv2]; exact row_here _ _ rfl
      have gv2 : w.heap.size ≤ v1.heap.size := zv1.size
      have zv2 := zv1.trans (bv2.mono zv1.size)
      refine hK.out _ _ ⟨zv2, ?_⟩
      clear hK K hv2
      intro q hq
      refine wpQuiet_nil ?_
      clear hq q
      have e0 := cell_of_row v2 _ 0 _ _ _ rv2
      have f0 := frozen_of_row v2 _ 0 _ _ rv2
      have e1 := cell_of_row v2 _ 1 _ _ _ rv2
      have f1 := frozen_of_row v2 _ 1 _ _ rv2
      have e2 := cell_of_row v2 _ 2 _ _ _ rv2
      have f2 := frozen_of_row v2 _ 2 _ _ rv2
      simp at e0 e1 e2
      refine seg_op (by simp only [List.getElem?_toArray, List.getElem?_cons_succ, List.getElem?_cons_zero]; rfl) fun K hK => ?_
      go_simp
      have zz := ((zv2.setCell (p := ⟨v1.heap.size, 0, none⟩) gv2 (.int .i64 t.free)).setCell (p := ⟨v1.heap.size, 1, none⟩) gv2 (.int .u64 (t.next : Int))).setCell (p := ⟨v1.heap.size, 2, none⟩) gv2 (.string (str l))
      have rr := setCell_row (i := 2) (v := .string (str l)) (setCell_row (i := 1) (v := .int .u64 (t.next : Int)) (setCell_row (i := 0) (v := .int .i64 t.free) rv2))
      simp at rr
      refine hK.out _ _ ⟨zz, ?_⟩
      clear hK K
      intro q hq
      refine wpQuiet_nil ?_
      clear hq q
      have ZZ := Lib.hid zz
      have RR := Lib.hid rr
      clear zz rr
      go_wp2_with (fail)
      go_meet
      case rel => exact ⟨v1.heap.size, rfl, gv2, RR, ZZ⟩
    · skip
      refine seg_op (by simp only [List.getElem?_toArray, List.getElem?_cons_succ, List.getElem?_cons_zero]; rfl) fun K hK => ?_
      go_simp
      obtain ⟨v3, hv3⟩ : ∃ v, v = wd.alloc (.cells #[.int .i64 0, .int .u64 0, .string { data := #[] }] 126) := ⟨_, rfl⟩
      rw [← hv3]
      have bv3 : Below wd.heap.size wd v3 := by rw [hv3]; exact (Below.refl _ _).alloc (Nat.le_refl _) _
      have rv3 : v3.heap[wd.heap.size]? = some (.cells #[.int .i64 0, .int .u64 0, .string { data := #[] }] 126 (0, 0)) := by rw [hv3]; exact row_here _ _ rfl
      have gv3 : w.heap.size ≤ wd.heap.size := hbd.size
      have zv3 := hbd.trans (bv3.mono hbd.size)
      refine hK.out _ _ ⟨zv3, ?_⟩
      clear hK K hv3
      intro q hq
      refine wpQuiet_nil ?_
      clear hq q
      refine seg_op (by simp only [List.getElem?_toArray, List.getElem?_cons_succ, List.getElem?_cons_zero]; rfl) fun K hK => ?_
      go_simp
      refine (HF.out _ zv3).mono ?_
      rintro e v4 ⟨rfl, bv4⟩
      have zv4 := zv3.trans (bv4.mono zv3.size)
      have rv4 := (bv4.block _ (Array.getElem?_eq_some_iff.1 rv3).1).trans rv3
      refine hK.out _ _ ⟨zv4, ?_⟩
      clear hK K
      intro q hq
      simp only [pickI, Option.toList_some, List.cons_append, List.nil_append, List.getElem?_toArray, List.getElem?_cons_succ, List.getElem?_cons_zero]
      repeat (go_big_quiet_step (fail))
      refine wpQuiet_nil ?_
      clear hq q
      have e0 := cell_of_row v4 _ 0 _ _ _ rv4
      have f0 := frozen_of_row v4 _ 0 _ _ rv4
      have e1 := cell_of_row v4 _ 1 _ _ _ rv4
      have f1 := frozen_of_row v4 _ 1 _ _ rv4
      have e2 := cell_of_row v4 _ 2 _ _ _ rv4
      have f2 := frozen_of_row v4 _ 2 _ _ rv4
      simp at e0 e1 e2
      refine seg_op (by simp only [List.getElem?_toArray, List.getElem?_cons_succ, List.getElem?_cons_zero]; rfl) fun K hK => ?_
      go_simp
      have zz := ((zv4.setCell (p := ⟨wd.heap.size, 0, none⟩) gv3 (.int .i64 t.free)).setCell (p := ⟨wd.heap.size, 1, none⟩) gv3 (.int .u64 (t.next : Int))).setCell (p := ⟨wd.heap.size, 2, none⟩) gv3 (.string (str l))
      have rr := setCell_row (i := 2) (v := .string (str l)) (setCell_row (i := 1) (v := .int .u64 (t.next : Int)) (setCell_row (i := 0) (v := .int .i64 t.free) rv4))
      simp at rr
      refine hK.out _ _ ⟨zz, ?_⟩
      clear hK K
      intro q hq
      refine wpQuiet_nil ?_
      clear hq q
      have ZZ := Lib.hid zz
      have RR := Lib.hid rr
      clear zz rr
      go_wp2_with (fail)
      go_meet
      case rel => exact ⟨wd.heap.size, rfl, gv3, RR, ZZ⟩
  case rest =>
    obtain ⟨a, rfl, ha, RA, ZB⟩ := hcut
    generalize wc = Y at *
    have c6 := kept ZB.out c6 hlt
    have hTY := HT.out.below ZB.out
    have f6 : Y.frozen? ⟨T, 6, none⟩ = false := frozen_of_row Y T 6 _ _ hTY
    have hTV := hTY.took
    obtain ⟨nx, hnx⟩ : ∃ nx, nx = (t.next + 1) % 18446744073709551616 := ⟨_, rfl⟩
    have e1 : IntKind.u64.wrap ((t.next : Int) + 1) = (nx : Int) := by rw [hnx]; simp [IntKind.wrap, IntKind.signed, IntKind.bits]
    rw [← hnx] at hTV
    have hkV := keeps_set Y T 6 (.int .u64 (nx : Int))
    obtain ⟨V, hV⟩ : ∃ V, V = Y.setCell ⟨T, 6, none⟩ (.int .u64 (nx : Int)) := ⟨_, rfl⟩
    rw [← hV] at hTV hkV
    have hne : a ≠ T := by omega
    have rV := hkV.row RA.out hne
    have k0 : V.cell? ⟨a, 0, none⟩ = some (.int .i64 t.free) := cell_of_row V a 0 _ _ _ rV
    have k1 : V.cell? ⟨a, 1, none⟩ = some (.int .u64 (t.next : Int)) := cell_of_row V a 1 _ _ _ rV
    have k2 : V.cell? ⟨a, 2, none⟩ = some (.string (str l)) := cell_of_row V a 2 _ _ _ rV
    have HOV := Lib.hid (((HOW.out.mono (Nat.le_refl M) (N' := fun i => N i ∧ i < w.heap.size) (fun i hi hn => ⟨hn, hi⟩)).below ZB.out).keeps hkV (fun i hi _ h => hTN (hi ▸ h.1)))
    have HTV := Lib.hid hTV
    have HKV := Lib.hid hkV
    have HV := Lib.hid hV
    have HRV := Lib.hid rV
    clear hfc hTY hTV hkV hV rV hnx
    rcases HPW.out with rfl | rfl
    · go_wp2_with (first
        | (go_at_call 100; (try rw [← HV.out]); refine (HWr.out V t.took HOV.out HTV.out rfl rfl).mono ?_; rintro e w5 ⟨rfl, hO5, hk5⟩
           have hT5 : Tw w5 T (some ⟨g, 0, none⟩) t.took := hk5.row HTV.out (fun h => hTN h.1)
           have rA5 := hk5.row HRV.out (fun h => absurd h.2 (Nat.not_lt.2 ha))
           have k0 := cell_of_row w5 a 0 _ _ _ rA5
           have k1 := cell_of_row w5 a 1 _ _ _ rA5
           have k2 := cell_of_row w5 a 2 _ _ _ rA5
           simp at k0 k1 k2
           have m3 := hT5.c3
           have m4 := hT5.c4
           have m5 := hT5.c5
           have g3 : w5.frozen? ⟨T, 3, none⟩ = false := frozen_of_row w5 T 3 _ _ hT5
           have g4 : w5.frozen? ⟨T, 4, none⟩ = false := frozen_of_row w5 T 4 _ _ hT5
           have g5 : w5.frozen? ⟨T, 5, none⟩ = false := frozen_of_row w5 T 5 _ _ hT5
           have HT5 := Lib.hid hT5
           have HO5 := Lib.hid hO5
           have HK5 := Lib.hid hk5
           clear rA5 hT5 hO5 hk5)
        | (rw [← HV.out])
        | fail)
      go_ret
      rw [HA1.out]
      have hsV : w.heap.size ≤ V.heap.size := Nat.le_trans ZB.out.size HKV.out.size
      have kS := ((keeps_set w5 T 3 (.int .i64 t.free)).trans (keeps_set _ T 4 (.int .u64 (t.next : Int))) (fun i h => .inl h)).trans (keeps_set _ T 5 (.string (str l))) (fun i h => .inl h)
      refine ⟨rfl, (HO5.out.keeps kS (fun i hi _ h => ?_)).mono (Nat.le_refl _) (fun i _ h => h.imp (fun h => h.1) (fun h => Nat.le_trans hsV h)), HT5.out.set t.free t.next l, ?_⟩
      · subst hi
        rcases h with h | h
        · exact hTN h.1
        · omega
      · exact (((Keeps.of_below ZB.out).trans HKV.out (fun i h => .inl (.inr h))).trans HK5.out (fun i h => .inl (.inl h.1))).trans kS (fun i h => .inl (.inr h))
    · go_wp2_with (first
        | (go_at_call 100; (try rw [← HV.out]); refine (HWr.out V t.took HOV.out HTV.out rfl rfl).mono ?_; rintro e w5 ⟨rfl, hO5, hk5⟩
           have HO5 := Lib.hid hO5
           have HK5 := Lib.hid hk5
           clear hO5 hk5)
        | (rw [← HV.out])
        | fail)
      go_ret
      rw [HA2.out]
      have hsV : w.heap.size ≤ V.heap.size := Nat.le_trans ZB.out.size HKV.out.size
      exact ⟨rfl, HO5.out.mono (Nat.le_refl _) (fun i _ h => h.imp (fun h => h.1) (fun h => Nat.le_trans hsV h)), HK5.out.row HTV.out (fun h => hTN h.1), ((Keeps.of_below ZB.out).trans HKV.out (fun i h => .inl (.inr h))).trans HK5.out (fun i h => .inl (.inl h.1))⟩

end Go.Proofs.YtpalmobmabkadaaGreatDoor

namespace Go.Proofs.YtpalmobmabkadaaGreatDoor
set_option maxRecDepth 20000
open Go.RowKit

/-- What the device refuses is refused. -/
theorem twopen_refused {w : World} (G : Option Addr) (base size : Int) (E : Int) (hE : E ≠ 0)
    (HR : ∀ s : Int, s = IntKind.i64.wrap (2 * min size 65536) → Calls Tryz.prog 68 #[.pointer G, .int .i64 base, .int .i64 s] w fun e w' => e = .returned (.tuple #[.slice none 0 0, .int .i64 E]) ∧ w = w') :
    Calls Tryz.prog 33 #[.pointer G, .int .i64 base, .int .i64 size] w fun e w' => e = .returned (.tuple #[.pointer none, .int .i64 E]) ∧ w = w' := by
  obtain ⟨s1, hs1⟩ : ∃ s, s = min size 65536 := ⟨_, rfl⟩
  have e2 : min size (65536 : Int) = s1 := hs1.symm
  obtain ⟨s2, hs2⟩ : ∃ s, s = IntKind.i64.wrap (2 * s1) := ⟨_, rfl⟩
  have e3 : IntKind.i64.wrap (2 * s1) = s2 := hs2.symm
  have e4 : (2 * s1 + 9223372036854775808) % 18446744073709551616 - 9223372036854775808 = s2 := by rw [hs2]; simp [IntKind.wrap, IntKind.signed, IntKind.bits]; split <;> omega
  have HRR := Lib.hid (HR s2 (by rw [hs2, hs1]))
  have q1 : (E == 0) = false := by simpa using hE
  have q2 : (E != 0) = true := by simpa using hE
  clear HR hs1 hs2
  go_enter Tryz.func33, Tryz.ntmps33
  go_wp2_with (first
    | (go_at_call 68; refine HRR.out.mono ?_; rintro e w1 ⟨rfl, rfl⟩)
    | fail)
  go_ret2
  exact ⟨rfl, rfl⟩

end Go.Proofs.YtpalmobmabkadaaGreatDoor

namespace Go.Proofs.YtpalmobmabkadaaGreatDoor
set_option maxRecDepth 20000
open Go.RowKit

/-- The change number i of a write. -/
def chgOf (x : Int) (l : List UInt8) (i : Nat) : Int × List UInt8 := (x + (i : Int), pad (sct l i))
theorem Dv.write_ws (d : Dv) (hd : d.down = false) (x : Int) (l : List UInt8) (j : Nat) : ∃ i, i ≤ j ∧ (d.write x l j).1.ws = d.ws ++ (List.range i).map (chgOf x l) ∧ ((d.write x l j).2 = 0 → i = j ∧ (d.write x l j).1.down = false) ∧ (d.write x l j).1.S = d.S ∧ (d.write x l j).1.n = d.n := by
  induction j with
  | zero => exact ⟨0, Nat.le_refl _, by simp [Dv.write], fun _ => ⟨rfl, hd⟩, rfl, rfl⟩
  | succ j ih =>
    obtain ⟨i, hi, h1, h2, h3, h4⟩ := ih
    rw [Dv.write]
    by_cases h0 : (d.write x l j).2 ≠ 0
    · rw [if_pos h0]
      exact ⟨i, by omega, h1, fun h => absurd h h0, h3, h4⟩
    · rw [if_neg h0]
      obtain ⟨rfl, h5⟩ := h2 (Decidable.not_not.1 h0)
      refine ⟨i + 1, Nat.le_refl _, ?_, fun h => ⟨rfl, ?_⟩, h3, h4⟩
      · show (d.write x l i).1.ws ++ [_] = _
        rw [h1, List.range_succ, List.map_append, List.append_assoc]
        rfl
      · simp only at h ⊢
        unfold pw at h
        split at h
        · cases h
        · rename_i hh; simpa using hh
theorem lastOf_range (x : Int) (l : List UInt8) (i : Nat) (y : Int) : lastOf ((List.range i).map (chgOf x l)) y = if x ≤ y ∧ y < x + i then some (pad (sct l (y - x).toNat)) else none := by
  induction i with
  | zero => rw [if_neg (by omega)]; rfl
  | succ i ih =>
    rw [List.range_succ, List.map_append, List.map_singleton, lastOf_snoc]
    show (if y = x + (i : Int) then some (pad (sct l i)) else lastOf ((List.range i).map (chgOf x l)) y) = _
    rw [ih]
    by_cases h : y = x + (i : Int)
    · rw [if_pos h, if_pos (by omega)]
      rw [show (y - x).toNat = i by omega]
    · rw [if_neg h]
      by_cases h2 : x ≤ y ∧ y < x + (i : Int)
      · rw [if_pos h2, if_pos (by omega)]
      · rw [if_neg h2, if_neg (by omega)]
theorem dv_crash_range (d : Dv) (x : Int) (l : List UInt8) (j : Nat) (hw : d.ws = (List.range j).map (chgOf x l)) (ks : List Int) (i : Nat) (hi : i ≤ j) (y : Int) :
    (d.crash1 ks i).S y = if x ≤ y ∧ y < x + i then mix (kept1 ks (y - x).toNat) (pad (sct l (y - x).toNat)) (d.S y) else d.S y := by
  induction i with
  | zero => rw [if_neg (by omega)]; rfl
  | succ i ih =>
    have ih := ih (by omega)
    have hg : d.ws[i]? = some (chgOf x l i) := by rw [hw, List.getElem?_map, List.getElem?_range (by omega)]; rfl
    rw [Dv.crash1, hg]
    show (if y = x + (i : Int) then _ else (d.crash1 ks i).S y) = _
    by_cases h : y = x + (i : Int)
    · rw [if_pos h, if_pos (by omega)]
      rw [if_neg (by omega)] at ih
      rw [show (y - x).toNat = i by omega, mix]
      show (pad (sct l i)).take _ ++ ((d.crash1 ks i).S (x + (i : Int))).drop _ = _
      rw [← h, ih]
    · rw [if_neg h, ih]
      by_cases h2 : x ≤ y ∧ y < x + (i : Int)
      · rw [if_pos h2, if_pos (by omega)]
      · rw [if_neg h2, if_neg (by omega)]
theorem mix_none (new old : List UInt8) : mix 0 new old = old := rfl
theorem mix_all (new old : List UInt8) (h1 : new.length = 64) (h2 : old.length = 64) : mix 64 new old = new := by
  rw [mix, List.take_of_length_le (by omega), List.drop_of_length_le (by omega), List.append_nil]
theorem sct_sec (m : Nat) (text : List UInt8) (ht : text.length ≤ 65536) (i : Nat) (hi : i < sectorsOf text.length) : pad (sct (makeOf m text) i) = sec m (chunkOf text i) := by
  have h := make_sect m text [] ht i hi
  rw [List.append_nil] at h
  have h2 : sct (makeOf m text) i = sec m (chunkOf text i) := h
  rw [h2, pad, sec_len (chunkOf_len text ht i hi), Z, List.drop_replicate]
  exact List.append_nil _
theorem Dv.write_fell (d : Dv) (x : Int) (l : List UInt8) (j : Nat) (h : (d.write x l j).2 ≠ 0) : (d.write x l j).1.down = true := by
  induction j with
  | zero => exact absurd rfl h
  | succ j ih =>
    rw [Dv.write] at h ⊢
    by_cases h0 : (d.write x l j).2 ≠ 0
    · rw [if_pos h0]
      exact ih h0
    · rw [if_neg h0] at h ⊢
      simp only at h ⊢
      unfold pw at h
      split at h
      · assumption
      · exact absurd rfl h

/-- What is in a sector behind a save, of which so much came to be. -/
def torns (x : Int) (m : Nat) (text : List UInt8) (ns : Nat → Nat) (S : Int → List UInt8) : Int → List UInt8 :=
  fun y => if x ≤ y ∧ y < x + (sectorsOf text.length : Nat) then mix (ns (y - x).toNat) (sec m (chunkOf text (y - x).toNat)) (S y) else S y
/-- A save that is done. -/
theorem Dv.save_done (d : Dv) (hd : d.down = false) (hw : d.ws = []) (x : Int) (m : Nat) (text : List UInt8) (ht : text.length ≤ 65536) (hS : ∀ y, (d.S y).length = 64) (he : (d.save x m text).2 = 0) :
    (d.save x m text).1.ws = [] ∧ (d.save x m text).1.down = false ∧ (d.save x m text).1.n = d.n ∧ (d.save x m text).1.S = torns x m text (fun _ => 64) d.S := by
  obtain ⟨i, hi, h1, h2, h3, h4⟩ := Dv.write_ws d hd x (makeOf m text) (sectorsOf text.length)
  unfold Dv.save at he ⊢
  rw [if_neg (by rw [hd]; decide)] at he ⊢
  by_cases h0 : (d.write x (makeOf m text) (sectorsOf text.length)).2 ≠ 0
  · rw [if_pos h0] at he
    exact absurd he h0
  · rw [if_neg h0] at he ⊢
    obtain ⟨rfl, h5⟩ := h2 (Decidable.not_not.1 h0)
    generalize (d.write x (makeOf m text) (sectorsOf text.length)).1 = d1 at *
    unfold Dv.flush at he ⊢
    rw [if_neg (by rw [h5]; decide)] at he ⊢
    by_cases h6 : d1.step.down = true
    · rw [if_pos h6] at he
      cases he
    · rw [if_neg h6] at he ⊢
      refine ⟨rfl, (Bool.not_eq_true _ ▸ h6 : d1.step.down = false), h4, ?_⟩
      funext y
      show (lastOf d1.ws y).getD (d1.S y) = _
      rw [h1, hw, List.nil_append, lastOf_range, h3]
      unfold torns
      by_cases h7 : x ≤ y ∧ y < x + ((sectorsOf text.length : Nat) : Int)
      · rw [if_pos h7, if_pos h7]
        rw [mix_all _ _ (sec_len (chunkOf_len text ht (y - x).toNat (by omega))) (hS y)]
        exact sct_sec m text ht (y - x).toNat (by omega)
      · rw [if_neg h7, if_neg h7]
        rfl
theorem Dv.save_fell (d : Dv) (hd : d.down = false) (hw : d.ws = []) (x : Int) (m : Nat) (text : List UInt8) (_ : text.length ≤ 65536) (he : (d.save x m text).2 ≠ 0) :
    ∃ i, i ≤ sectorsOf text.length ∧ (d.save x m text).1.ws = (List.range i).map (chgOf x (makeOf m text)) ∧ (d.save x m text).1.n = d.n ∧ (d.save x m text).1.S = d.S ∧ (d.save x m text).1.down = true := by
  obtain ⟨i, hi, h1, h2, h3, h4⟩ := Dv.write_ws d hd x (makeOf m text) (sectorsOf text.length)
  have h9 := Dv.write_pw d x (makeOf m text) (sectorsOf text.length)
  rw [hw, List.nil_append] at h1
  unfold Dv.save at he ⊢
  rw [if_neg (by rw [hd]; decide)] at he ⊢
  by_cases h0 : (d.write x (makeOf m text) (sectorsOf text.length)).2 ≠ 0
  · rw [if_pos h0] at he ⊢
    exact ⟨i, hi, h1, h4, h3, Dv.write_fell d x _ _ h0⟩
  · rw [if_neg h0] at he ⊢
    obtain ⟨hij, h5⟩ := h2 (Decidable.not_not.1 h0)
    generalize (d.write x (makeOf m text) (sectorsOf text.length)).1 = d1 at *
    unfold Dv.flush at he ⊢
    rw [if_neg (by rw [h5]; decide)] at he ⊢
    by_cases h6 : d1.step.down = true
    · rw [if_pos h6]
      exact ⟨i, hi, h1, h4, h3, h6⟩
    · rw [if_neg h6] at he
      exact absurd rfl he
/-- Behind a save and a crash. -/
theorem Dv.save_crash (d : Dv) (hd : d.down = false) (hw : d.ws = []) (x : Int) (m : Nat) (text : List UInt8) (ht : text.length ≤ 65536) (hS : ∀ y, (d.S y).length = 64) (ks : List Int) :
    ∃ ns : Nat → Nat, (∀ i, ns i ≤ 64) ∧ ((d.save x m text).2 = 0 → ns = fun _ => 64) ∧ ((d.save x m text).1.crash ks).ws = [] ∧ ((d.save x m text).1.crash ks).down = false ∧ ((d.save x m text).1.crash ks).fuse = 0 ∧ ((d.save x m text).1.crash ks).n = d.n ∧ ((d.save x m text).1.crash ks).S = torns x m text ns d.S := by
  by_cases he : (d.save x m text).2 = 0
  · obtain ⟨h1, h2, h3, h4⟩ := Dv.save_done d hd hw x m text ht hS he
    refine ⟨fun _ => 64, fun _ => Nat.le_refl _, fun _ => rfl, rfl, rfl, rfl, ((Dv.crash1_ws _ ks _).2.1).trans h3, ?_⟩
    unfold Dv.crash
    rw [h1]
    exact h4
  · obtain ⟨i, hi, h1, h3, h4, _⟩ := Dv.save_fell d hd hw x m text ht he
    refine ⟨fun j => if j < i then kept1 ks j else 0, fun j => ?_, fun h => absurd h he, rfl, rfl, rfl, ((Dv.crash1_ws _ ks _).2.1).trans h3, ?_⟩
    · dsimp only
      split
      · exact kept1_le ks j
      · omega
    · funext y
      have h := dv_crash_range (d.save x m text).1 x (makeOf m text) i h1 ks i (Nat.le_refl _) y
      rw [h4] at h
      unfold Dv.crash
      rw [h1, List.length_map, List.length_range]
      show ((d.save x m text).1.crash1 ks i).S y = _
      rw [h]
      unfold torns
      by_cases h7 : x ≤ y ∧ y < x + ((i : Nat) : Int)
      · rw [if_pos h7, if_pos (by omega), sct_sec m text ht (y - x).toNat (by omega)]
        dsimp only
        rw [if_pos (by omega)]
      · rw [if_neg h7]
        by_cases h8 : x ≤ y ∧ y < x + ((sectorsOf text.length : Nat) : Int)
        · rw [if_pos h8]
          dsimp only
          rw [if_neg (by omega), mix_none]
        · rw [if_neg h8]
end Go.Proofs.YtpalmobmabkadaaGreatDoor

namespace Go.Proofs.YtpalmobmabkadaaGreatDoor
set_option maxRecDepth 20000
open Go.RowKit

theorem bytes_split (d : Dv) (x : Int) (a b : Nat) : d.bytes x (a + b) = d.bytes x a ++ d.bytes (x + a) b := by
  induction b with
  | zero => rw [Nat.add_zero, Dv.bytes, List.append_nil]
  | succ b ih =>
    rw [← Nat.add_assoc, Dv.bytes, Dv.bytes, ih, List.append_assoc, show x + ((a + b : Nat) : Int) = x + (a : Int) + (b : Int) from by omega]
theorem bytes_same (d d' : Dv) (x : Int) (n : Nat) (h : ∀ i, i < n → d'.seen (x + (i : Int)) = d.seen (x + (i : Int))) : d'.bytes x n = d.bytes x n := by
  induction n with
  | zero => rfl
  | succ n ih => rw [Dv.bytes, Dv.bytes, ih (fun i hi => h i (by omega)), h n (by omega)]
theorem sect_bytes (d : Dv) (hd : d.Ok) (x : Int) (n i : Nat) (hi : i < n) : sect (d.bytes x n) i = d.seen (x + (i : Int)) := by
  induction n with
  | zero => omega
  | succ n ih =>
    have hl := Dv.bytes_len hd x n
    have hs := Dv.seen_len hd (x + (n : Int))
    rw [Dv.bytes, sect]
    rcases Nat.lt_or_ge i n with h | h
    · have ih := ih h
      rw [sect] at ih
      rw [List.drop_append_of_le_length (by omega), List.take_append_of_le_length (by rw [List.length_drop]; omega), ih]
    · obtain rfl : i = n := by omega
      rw [List.drop_append, List.drop_of_length_le (by omega), List.nil_append, hl, Nat.sub_self, List.drop_zero, List.take_of_length_le (by omega)]
theorem seen_calm (d : Dv) (h : d.ws = []) (y : Int) : d.seen y = d.S y := by
  unfold Dv.seen
  rw [h]
  rfl
theorem mostOf_le (l : List UInt8) (n k : Nat) (h : ∀ i, i < k → Ends n (sect l i)) : mostOf l k ≤ n := by
  induction k with
  | zero => exact Nat.zero_le _
  | succ k ih =>
    have h1 := ih (fun i hi => h i (by omega))
    have h2 := h k (by omega)
    have := h2.2.1
    have := h2.2.2
    rw [mostOf]
    omega
theorem mostOf_ge (l : List UInt8) (k i : Nat) (hi : i < k) : headsOf (sect l i) ≤ mostOf l k := by
  induction k with
  | zero => omega
  | succ k ih =>
    rw [mostOf]
    rcases Nat.lt_or_ge i k with h | h
    · have := ih h
      omega
    · obtain rfl : i = k := by omega
      omega
theorem held_num (L : List UInt8) : (heldOf L).1 = 0 ∨ (heldOf L).1 = headsOf L := by
  unfold heldOf readOf
  split
  · exact .inl rfl
  · split
    · exact .inl rfl
    · split
      · exact .inl rfl
      · exact .inr rfl
theorem held_len (L : List UInt8) : (heldOf L).2.length ≤ 65536 := by
  by_cases h : (readOf L).2.2 = 0
  · have := read_back L (readOf L).2.1 (readOf L).1 (by rw [← h])
    exact this.2.2.1
  · have h2 : (readOf L).2.1 = [] := by
      unfold readOf at h ⊢
      split
      · rfl
      · rename_i h1
        rw [if_neg h1] at h
        split
        · rfl
        · rename_i h3
          rw [if_neg h3] at h
          split
          · rfl
          · rename_i h4
            rw [if_neg h4] at h
            exact absurd rfl h
    unfold heldOf
    rw [h2]
    exact Nat.zero_le _
/-- What a place of a device holds. -/
def Dv.holds (d : Dv) (x : Int) (n : Nat) : Nat × List UInt8 := heldOf (d.bytes x n)
theorem best_places (d : Dv) (hd : d.Ok) (base : Int) (size : Nat) : bestBy size (d.bytes base (2 * size)) = bestOf (d.holds base size).1 (d.holds base size).2 (d.holds (base + size) size).1 (d.holds (base + size) size).2 := by
  have hl := Dv.bytes_len hd base size
  unfold bestBy Dv.holds
  rw [show 2 * size = size + size by omega, bytes_split, List.take_append_of_le_length (by omega), List.take_of_length_le (by omega), List.drop_append, List.drop_of_length_le (by omega), List.nil_append, hl, Nat.sub_self, List.drop_zero]

/-- Where the better one of two is not, there a greater one becomes the best, and none leaves it the best. -/
theorem best_put (n0 : Nat) (t0 : List UInt8) (n1 : Nat) (t1 : List UInt8) (N : Nat) (t : List UInt8) (h0 : n0 < N) (h1 : n1 < N) :
    ∃ f : Nat, (f = 0 ∨ f = 1) ∧ (f : Int) = (if (bestOf n0 t0 n1 t1).2.1 = 0 then 0 else 1 - (bestOf n0 t0 n1 t1).1)
    ∧ (f = 0 → bestOf N t n1 t1 = (0, N, t) ∧ (bestOf 0 [] n1 t1).2 = (bestOf n0 t0 n1 t1).2)
    ∧ (f = 1 → bestOf n0 t0 N t = (1, N, t) ∧ (bestOf n0 t0 0 []).2 = (bestOf n0 t0 n1 t1).2) := by
  unfold bestOf
  by_cases h : n0 < n1
  · refine ⟨0, .inl rfl, ?_, fun _ => ⟨?_, ?_⟩, fun h => absurd h (by decide)⟩
    · rw [if_pos h, if_neg (by dsimp only; omega)]; rfl
    · rw [if_neg (by omega), if_pos (by omega)]
    · rw [if_pos (by omega), if_pos h]
  · by_cases h2 : 0 < n0
    · refine ⟨1, .inr rfl, ?_, fun h => absurd h (by decide), fun _ => ⟨?_, ?_⟩⟩
      · rw [if_neg h, if_pos h2, if_neg (by dsimp only; omega)]; rfl
      · rw [if_pos (by omega)]
      · rw [if_neg (by omega), if_pos h2, if_neg h]
    · refine ⟨0, .inl rfl, ?_, fun _ => ⟨?_, ?_⟩, fun h => absurd h (by decide)⟩
      · rw [if_neg h, if_neg h2, if_pos rfl]; rfl
      · rw [if_neg (by omega), if_pos (by omega)]
      · rw [if_neg (by omega), if_neg (by omega), if_neg h, if_neg h2]

/-- A twin stands on a calm device. -/
structure Stands (base : Int) (size : Nat) (d : Dv) (t : Tv) : Prop where
  ok : d.Ok
  calm : d.ws = []
  tb : t.base = base
  ts : t.size = (size : Int)
  next : 0 < t.next
  ends : ∀ i, i < 2 * size → Ends (t.next - 1) (d.S (base + (i : Int)))
  best : (t.place, t.number, t.text) = bestBy size (d.bytes base (2 * size))
section
variable {base : Int} {size : Nat} {d : Dv} {t : Tv}
theorem Stands.num (h : Stands base size d t) (hs : 0 < size) : (d.holds base size).1 < t.next ∧ (d.holds (base + size) size).1 < t.next := by
  have key : ∀ k, k < 2 → (d.holds (base + ((k * size : Nat) : Int)) size).1 < t.next := fun k hk => by
    have hx := h.ends (k * size) (by rcases (show k = 0 ∨ k = 1 by omega) with rfl | rfl <;> omega)
    have hn := h.next
    unfold Dv.holds
    have e := first_ends (d.bytes (base + ((k * size : Nat) : Int)) size) (by rw [Dv.bytes_len h.ok]; omega)
    rw [sect_bytes d h.ok _ _ 0 hs, seen_calm d h.calm] at e
    rw [show base + ((k * size : Nat) : Int) + ((0 : Nat) : Int) = base + ((k * size : Nat) : Int) by omega] at e
    have := hx.2.1
    rcases held_num (d.bytes (base + ((k * size : Nat) : Int)) size) with h | h <;> omega
  have h0 := key 0 (by omega)
  have h1 := key 1 (by omega)
  rw [show base + ((0 * size : Nat) : Int) = base by omega] at h0
  rw [show base + ((1 * size : Nat) : Int) = base + size by omega] at h1
  exact ⟨h0, h1⟩
theorem Stands.is (h : Stands base size d t) : (t.place, t.number, t.text) = bestOf (d.holds base size).1 (d.holds base size).2 (d.holds (base + size) size).1 (d.holds (base + size) size).2 := h.best.trans (best_places d h.ok base size)
theorem Stands.text (h : Stands base size d t) : t.text.length ≤ 65536 ∧ t.number < t.next ∨ size = 0 := by
  rcases Nat.eq_zero_or_pos size with h0 | h0
  · exact .inr h0
  · left
    have hb := h.is
    have hn := h.num h0
    have hx := h.next
    have l0 := held_len (d.bytes base size)
    have l1 := held_len (d.bytes (base + size) size)
    unfold bestOf at hb
    split at hb
    · obtain ⟨_, hb2⟩ := Prod.mk.inj hb
      obtain ⟨hb2, hb3⟩ := Prod.mk.inj hb2
      rw [hb2, hb3]
      exact ⟨l1, hn.2⟩
    · split at hb
      · obtain ⟨_, hb2⟩ := Prod.mk.inj hb
        obtain ⟨hb2, hb3⟩ := Prod.mk.inj hb2
        rw [hb2, hb3]
        exact ⟨l0, hn.1⟩
      · obtain ⟨_, hb2⟩ := Prod.mk.inj hb
        obtain ⟨hb2, hb3⟩ := Prod.mk.inj hb2
        rw [hb2, hb3]
        exact ⟨Nat.zero_le _, hx⟩
/-- What is opened stands. -/
theorem stands_open (ho : d.Ok) (hw : d.ws = []) (N : Nat) (hN : N < 256) (he : ∀ i, i < 2 * size → Ends N (d.S (base + (i : Int)))) : Stands base size d (openTv base size (d.bytes base (2 * size))) ∧ (openTv base size (d.bytes base (2 * size))).next ≤ N + 1 := by
  have hsec : ∀ i, i < 2 * size → sect (d.bytes base (2 * size)) i = d.S (base + (i : Int)) := fun i hi => by rw [sect_bytes d ho _ _ i hi, seen_calm d hw]
  have hm := mostOf_le (d.bytes base (2 * size)) N (2 * size) (fun i hi => by rw [hsec i hi]; exact he i hi)
  have hmod : (mostOf (d.bytes base (2 * size)) (2 * size) + 1) % 18446744073709551616 = mostOf (d.bytes base (2 * size)) (2 * size) + 1 := Nat.mod_eq_of_lt (by omega)
  refine ⟨⟨ho, hw, rfl, rfl, ?_, fun i hi => ?_, rfl⟩, ?_⟩
  · show 0 < (mostOf _ _ + 1) % _
    rw [hmod]; omega
  · show Ends ((mostOf _ _ + 1) % _ - 1) _
    rw [hmod]
    have h1 := he i hi
    have h2 := mostOf_ge (d.bytes base (2 * size)) (2 * size) i hi
    rw [hsec i hi] at h2
    exact ⟨h1.1, by omega, h1.2.2⟩
  · show (mostOf _ _ + 1) % _ ≤ _
    rw [hmod]; omega
/-- What a save, of which so much came to be, makes of the places. -/
theorem stands_torn (h : Stands base size d t) (hs : 0 < size) (text : List UInt8) (ht : text.length ≤ 65536) (hK : sectorsOf text.length ≤ size) (hx : t.next < 256) (ns : Nat → Nat) (hns : ∀ i, ns i ≤ 64) (d' : Dv) (ho : d'.Ok) (hw : d'.ws = []) (hS : d'.S = torns (base + t.free * size) t.next text ns d.S) :
    (∀ i, i < 2 * size → Ends t.next (d'.S (base + (i : Int)))) ∧ (0 ≤ t.free ∧ t.free ≤ 1) ∧ (0 ≤ t.place ∧ t.place ≤ 1)
    ∧ ((bestBy size (d'.bytes base (2 * size))).2 = (t.number, t.text) ∨ bestBy size (d'.bytes base (2 * size)) = (t.free, t.next, text))
    ∧ (ns = (fun _ => 64) → bestBy size (d'.bytes base (2 * size)) = (t.free, t.next, text)) := by
  have hn := h.num hs
  have hb := h.is
  obtain ⟨f, hf, hfe, hf0, hf1⟩ := best_put (d.holds base size).1 (d.holds base size).2 (d.holds (base + size) size).1 (d.holds (base + size) size).2 t.next text hn.1 hn.2
  have hfree : t.free = (f : Int) := by
    unfold Tv.free
    rw [hfe, ← hb]
  have hpl : 0 ≤ t.place ∧ t.place ≤ 1 := by
    have e : t.place = (bestOf (d.holds base size).1 (d.holds base size).2 (d.holds (base + size) size).1 (d.holds (base + size) size).2).1 := by rw [← hb]
    rw [e]
    unfold bestOf
    split
    · exact (by decide : (0 : Int) ≤ 1 ∧ (1 : Int) ≤ 1)
    · split
      · exact (by decide : (0 : Int) ≤ 0 ∧ (0 : Int) ≤ 1)
      · exact (by decide : (0 : Int) ≤ 0 ∧ (0 : Int) ≤ 1)
  rw [← hb] at hf0 hf1
  have hx0 := h.next
  rw [hfree] at hS ⊢
  have hxe : base + (f : Int) * (size : Int) = base + ((f * size : Nat) : Int) := by simp
  rw [hxe] at hS
  have hfs : f * size = 0 ∨ f * size = size := by rcases hf with rfl | rfl <;> omega
  have hall : ∀ i, i < 2 * size → d'.S (base + (i : Int)) = if f * size ≤ i ∧ i < f * size + sectorsOf text.length then mix (ns (i - f * size)) (sec t.next (chunkOf text (i - f * size))) (d.S (base + (i : Int))) else d.S (base + (i : Int)) := fun i hi => by
    rw [hS]
    unfold torns
    by_cases hc : f * size ≤ i ∧ i < f * size + sectorsOf text.length
    · rw [if_pos hc, if_pos (by omega)]
      rw [show (base + (i : Int) - (base + ((f * size : Nat) : Int))).toNat = i - f * size by omega]
    · rw [if_neg hc, if_neg (by omega)]
  have hends : ∀ i, i < 2 * size → Ends t.next (d'.S (base + (i : Int))) := fun i hi => by
    rw [hall i hi]
    split
    · rename_i hc
      exact (mix_ends t.next _ text _ _ ht (by omega) (hns _) hx hx0 (h.ends i hi)).2
    · exact (h.ends i hi).mono (by omega)
  have hsec : ∀ (e : Dv), e.Ok → e.ws = [] → ∀ k i, i < size → sect (e.bytes (base + ((k * size : Nat) : Int)) size) i = e.S (base + ((k * size + i : Nat) : Int)) := fun e he hw k i hi => by
    rw [sect_bytes e he _ _ i hi, seen_calm e hw]
    congr 1
    omega
  -- the place that was written
  have hput : (readOf (d'.bytes (base + ((f * size : Nat) : Int)) size) = (t.next, text, 0) ∨ readOf (d'.bytes (base + ((f * size : Nat) : Int)) size) = readOf (d.bytes (base + ((f * size : Nat) : Int)) size) ∨ ((readOf (d'.bytes (base + ((f * size : Nat) : Int)) size)).1 = 0 ∧ (readOf (d'.bytes (base + ((f * size : Nat) : Int)) size)).2.1 = [])) := by
    refine place_torn _ _ size t.next text ns (Dv.bytes_len h.ok _ _) (Dv.bytes_len ho _ _) hK ht hx0 hx hns (fun i hi => ?_) (fun i hi => ?_)
    · rw [hsec d h.ok h.calm f i hi]
      exact h.ends _ (by omega)
    · rw [hsec d h.ok h.calm f i hi, hsec d' ho hw f i hi, hall _ (by omega)]
      rw [show f * size + i - f * size = i by omega]
      by_cases hc : i < sectorsOf text.length
      · rw [if_pos hc, if_pos (by omega)]
      · rw [if_neg hc, if_neg (by omega)]
  have hput2 : ns = (fun _ => 64) → readOf (d'.bytes (base + ((f * size : Nat) : Int)) size) = (t.next, text, 0) := fun hne => by
    refine read_secs t.next text _ ht (by omega) hx0 (by rw [Dv.bytes_len ho]; omega) (fun i hi => ?_)
    rw [hsec d' ho hw f i (by omega), hall _ (by omega), if_pos (by omega), hne, mix_all _ _ (sec_len (chunkOf_len text ht _ (by omega))) (h.ends _ (by omega)).1, show f * size + i - f * size = i by omega]
    rfl
  -- the other one
  have hother : d'.holds (base + (((1 - f) * size : Nat) : Int)) size = d.holds (base + (((1 - f) * size : Nat) : Int)) size := by
    unfold Dv.holds
    rw [bytes_same d d' _ _ (fun i hi => ?_)]
    rw [seen_calm d' hw, seen_calm d h.calm, show base + (((1 - f) * size : Nat) : Int) + (i : Int) = base + (((1 - f) * size + i : Nat) : Int) by omega, hall _ (by rcases hf with rfl | rfl <;> omega), if_neg (by rcases hf with rfl | rfl <;> omega)]
  rw [best_places d' ho]
  refine ⟨hends, by omega, hpl, ?_⟩
  rcases hf with rfl | rfl
  · rw [show base + ((0 * size : Nat) : Int) = base by omega] at hput hput2
    rw [show base + (((1 - 0) * size : Nat) : Int) = base + size by omega] at hother
    obtain ⟨g1, g2⟩ := hf0 rfl
    rw [hother]
    have hnew : readOf (d'.bytes base size) = (t.next, text, 0) → bestOf (d'.holds base size).1 (d'.holds base size).2 (d.holds (base + size) size).1 (d.holds (base + size) size).2 = (((0 : Nat) : Int), t.next, text) := fun e => by
      have e2 : d'.holds base size = (t.next, text) := by unfold Dv.holds heldOf; rw [e]
      rw [e2]
      exact g1
    refine ⟨?_, fun hne => hnew (hput2 hne)⟩
    rcases hput with e | e | ⟨e, e'⟩
    · exact .inr (hnew e)
    · left
      have e2 : d'.holds base size = d.holds base size := by unfold Dv.holds heldOf; rw [e]
      rw [e2, ← hb]
    · left
      have e2 : d'.holds base size = (0, []) := by unfold Dv.holds heldOf; rw [e, e']
      rw [e2]
      exact g2
  · rw [show base + ((1 * size : Nat) : Int) = base + size by omega] at hput hput2
    rw [show base + (((1 - 1) * size : Nat) : Int) = base by omega] at hother
    obtain ⟨g1, g2⟩ := hf1 rfl
    rw [hother]
    have hnew : readOf (d'.bytes (base + size) size) = (t.next, text, 0) → bestOf (d.holds base size).1 (d.holds base size).2 (d'.holds (base + size) size).1 (d'.holds (base + size) size).2 = (((1 : Nat) : Int), t.next, text) := fun e => by
      have e2 : d'.holds (base + size) size = (t.next, text) := by unfold Dv.holds heldOf; rw [e]
      rw [e2]
      exact g1
    refine ⟨?_, fun hne => hnew (hput2 hne)⟩
    rcases hput with e | e | ⟨e, e'⟩
    · exact .inr (hnew e)
    · left
      have e2 : d'.holds (base + size) size = d.holds (base + size) size := by unfold Dv.holds heldOf; rw [e]
      rw [e2, ← hb]
    · left
      have e2 : d'.holds (base + size) size = (0, []) := by unfold Dv.holds heldOf; rw [e, e']
      rw [e2]
      exact g2
/-- A save that is done. -/
theorem stands_save (h : Stands base size d t) (hd : d.down = false) (hs : 0 < size) (text : List UInt8) (ht : text.length ≤ 65536) (hK : sectorsOf text.length ≤ size) (hx : t.next < 256) (he : (d.save (t.base + t.free * t.size) t.next text).2 = 0) (ho : (d.save (t.base + t.free * t.size) t.next text).1.Ok) :
    Stands base size (d.save (t.base + t.free * t.size) t.next text).1 (t.after text 0) ∧ (d.save (t.base + t.free * t.size) t.next text).1.down = false := by
  rw [h.tb, h.ts] at he ho ⊢
  obtain ⟨h1, h2, h3, h4⟩ := Dv.save_done d hd h.calm _ _ text ht h.ok.S he
  obtain ⟨g1, g2, _, g3, g4⟩ := stands_torn h hs text ht hK hx (fun _ => 64) (fun _ => Nat.le_refl _) _ ho h1 h4
  have hmod : (t.next + 1) % 18446744073709551616 = t.next + 1 := Nat.mod_eq_of_lt (by omega)
  refine ⟨⟨ho, h1, h.tb, h.ts, ?_, fun i hi => ?_, ?_⟩, h2⟩
  · show 0 < (t.next + 1) % _
    rw [hmod]; omega
  · show Ends ((t.next + 1) % _ - 1) _
    rw [hmod]
    exact g1 i hi
  · show (t.free, t.next, text) = _
    exact (g4 rfl).symm
theorem torns_ok (d d' : Dv) (h : d.Ok) (x : Int) (m : Nat) (text : List UInt8) (ht : text.length ≤ 65536) (ns : Nat → Nat) (hns : ∀ i, ns i ≤ 64) (hn : d'.n = d.n) (hw : d'.ws = []) (hf : d'.fuse < 18446744073709551616) (hS : d'.S = torns x m text ns d.S) : d'.Ok := by
  refine ⟨by rw [hn]; exact h.n, fun y => ?_, (fun p hp => by rw [hw] at hp; cases hp), hf⟩
  rw [hS]
  unfold torns
  split
  · exact mix_len _ _ _ (hns _) (sec_len (chunkOf_len text ht _ (by omega))) (h.S y)
  · exact h.S y
/-- A save, and a crash. -/
theorem stands_crash (h : Stands base size d t) (hd : d.down = false) (hs : 0 < size) (text : List UInt8) (ht : text.length ≤ 65536) (hK : sectorsOf text.length ≤ size) (hx : t.next < 255) (ks : List Int) (d' : Dv) (hd' : d' = (d.save (t.base + t.free * t.size) t.next text).1.crash ks) :
    Stands base size d' (openTv base size (d'.bytes base (2 * size))) ∧ d'.down = false ∧ d'.fuse = 0 ∧ d'.n = d.n ∧ (openTv base size (d'.bytes base (2 * size))).next ≤ t.next + 1
    ∧ (((openTv base size (d'.bytes base (2 * size))).number = t.number ∧ (openTv base size (d'.bytes base (2 * size))).text = t.text) ∨ ((openTv base size (d'.bytes base (2 * size))).number = t.next ∧ (openTv base size (d'.bytes base (2 * size))).text = text))
    ∧ ((d.save (t.base + t.free * t.size) t.next text).2 = 0 → (openTv base size (d'.bytes base (2 * size))).number = t.next ∧ (openTv base size (d'.bytes base (2 * size))).text = text) := by
  rw [h.tb, h.ts] at hd' ⊢
  obtain ⟨ns, n1, n2, n3, n4, n5, n6, n7⟩ := Dv.save_crash d hd h.calm (base + t.free * size) t.next text ht h.ok.S ks
  rw [← hd'] at n3 n4 n5 n6 n7
  have ho := torns_ok d d' h.ok _ _ text ht ns n1 n6 n3 (by rw [n5]; decide) n7
  obtain ⟨g1, g2, _, g3, g4⟩ := stands_torn h hs text ht hK (by omega) ns n1 d' ho n3 n7
  obtain ⟨s1, s2⟩ := stands_open ho n3 t.next (by omega) g1
  refine ⟨s1, n4, n5, n6, s2, ?_, fun he => ?_⟩
  · rcases g3 with e | e
    · left
      exact Prod.mk.inj e
    · right
      exact Prod.mk.inj (Prod.mk.inj e).2
  · exact Prod.mk.inj (Prod.mk.inj (g4 (n2 he))).2
end
end Go.Proofs.YtpalmobmabkadaaGreatDoor
