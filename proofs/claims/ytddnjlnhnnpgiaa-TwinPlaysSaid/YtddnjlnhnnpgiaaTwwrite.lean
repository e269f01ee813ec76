/- A twin: what is to be saved is made safe. -/
import Derived.Test.YtddnjlnhnnpgiaaTwopen
import Derived.Test.YtddnjlnhnnpgiaaOwnZ
import Derived.Test.YtddnjlnhnnpgiaaFtornZ
namespace Go.Proofs.Ytddnjlnhnnpgiaa
set_option maxRecDepth 20000
open Go.RowKit

/-- What becomes of a device at which a frame is written and made safe, and what is told. -/
def Dv.save (d : Dv) (x : Int) (m : Nat) (l : List UInt8) : Dv × Int :=
  if d.down = true then (d, 50) else
  if (d.write x (makeOf m l) (sectorsOf l.length)).2 ≠ 0 then d.write x (makeOf m l) (sectorsOf l.length) else
  (d.write x (makeOf m l) (sectorsOf l.length)).1.flush

set_option maxHeartbeats 4000000 in
theorem twwrite_any {w : World} {B g M T : Nat} {N : Nat → Prop} {d : Dv} {t : Tv} (h : Own w B g N M d) (hM : M ≤ 90000) (hT : Tw w T (some ⟨g, 0, none⟩) t) (hTN : ¬ N T)
    (p : Int) (m : Nat) (l : List UInt8) (x : Int) (hx : x = t.base + p * t.size) (hp0 : 0 ≤ p) (hp1 : p ≤ 1) (hb0 : 0 ≤ t.base) (hb1 : t.base ≤ 1000000) (hs0 : 0 ≤ t.size) (hs1 : t.size ≤ 1000) (hl : l.length ≤ 3000) (hm0 : 0 < m) (hm : m < 18446744073709551616) (hxn : x + sectorsOf l.length ≤ d.n) :
    Calls Try.prog 33 #[.pointer (some ⟨T, 0, none⟩), .agg #[.int .i64 p, .int .u64 (m : Int), .string (str l)]] w fun e w' => e = .returned (.int .i64 (d.save x m l).2) ∧ Left w B g N (M + 80) (d.save x m l).1 w' := by
  obtain ⟨W, hW⟩ : ∃ W, W = w.alloc (.cells #[.int .i64 p, .int .u64 (m : Int), .string (str l)] 62) := ⟨_, rfl⟩
  have hbW : Below w.heap.size w W := by rw [hW]; exact (Below.refl _ _).alloc (Nat.le_refl _) _
  have hzW : W.heap.size = w.heap.size + 1 := by rw [hW]; simp
  have rW : W.heap[w.heap.size]? = some (.cells #[.int .i64 p, .int .u64 (m : Int), .string (str l)] 62 (0, 0)) := by rw [hW]; exact row_here _ _ rfl
  have hk2 := sectorsOf_at _ (show l.length ≤ 65536 by omega)
  obtain ⟨K, hK0⟩ : ∃ k, k = sectorsOf (l.length : Int) := ⟨_, rfl⟩
  obtain ⟨n3, hn3⟩ : ∃ n, n = 64 * K := ⟨_, rfl⟩
  obtain ⟨y, hy⟩ : ∃ y, y = p * t.size := ⟨_, rfl⟩
  have hy0 : 0 ≤ y ∧ y ≤ 1000 := by
    rcases (show p = 0 ∨ p = 1 by omega) with h | h
    · rw [hy, h]; omega
    · rw [hy, h]; omega
  have hmk := makeOf_len m l (by omega)
  rw [← hK0] at hk2 hxn hmk
  rw [← hn3] at hmk
  have hsv : d.save x m l = if d.down = true then (d, 50) else if (d.write x (makeOf m l) K).2 ≠ 0 then d.write x (makeOf m l) K else (d.write x (makeOf m l) K).1.flush := by rw [hK0]; rfl
  have hMk := fun (W1 : World) (A : Option Addr) (c : Nat) (h : Rd W1 W1.heap.size 1 A l.length c (u8s l)) => make_good m A l.length c l W1 h (by omega) hm0 hm
  rw [← hK0, ← hn3] at hMk
  generalize makeOf m l = L at *
  have k0 := cell_of_row W _ 0 _ _ _ rW
  have k1 := cell_of_row W _ 1 _ _ _ rW
  have k2 := cell_of_row W _ 2 _ _ _ rW
  simp at k0 k1 k2
  have HMK := Lib.hid hMk
  have HL := Lib.hid hl
  have HB := Lib.hid hbW
  have HZ := Lib.hid hzW
  have HR := Lib.hid rW
  have HW := Lib.hid hW
  have HO := Lib.hid h
  have HT := Lib.hid hT
  have HX := Lib.hid hx
  have HS := Lib.hid (And.intro hs0 hs1)
  have HBB := Lib.hid (And.intro hb0 hb1)
  have HP := Lib.hid (And.intro hp0 hp1)
  have HM := Lib.hid (And.intro hm0 hm)
  have HXN := Lib.hid hxn
  have HK := Lib.hid (And.intro hk2 hn3)
  have HY := Lib.hid hy0
  have HSV := Lib.hid hsv
  have HLL := Lib.hid hmk
  have e1 : p * t.size = y := hy.symm
  have e2 : t.base + y = x := by rw [hx, hy]
  have c0 := hT.c0
  have c1 := hT.c1
  have c2 := hT.c2
  have hTlt := hT.lt
  clear hk2 hn3 hy0 hy hK0 hsv hmk hMk hbW hzW rW hW h hT hl hx hs0 hs1 hb0 hb1 hp0 hp1 hm0 hm hxn
  go_enter Try.func33, Try.ntmps33
  go_wp2_with (first
    | (rw [← HW.out]; refine wpL_strb (o := ⟨some 13, _, _, _, _, _⟩) rfl (.tmp 12) _ _ rfl Try.underlying9 Try.underlying38 Try.underlying5 rfl (by have := HL.out; unfold maxLen; omega) ?_; intro W1 A cap hrd hfar hb1)
    | (go_at_call 56; refine (HMK.out _ _ _ hrd).mono ?_; rintro e w3 ⟨v3, rfl, hown3, hb3⟩)
    | fail)
  have hbW1 : Below w.heap.size w W1 := HB.out.trans (hb1.mono HB.out.size)
  have hb03 : Below w.heap.size w w3 := hbW1.trans (hb3.mono hbW1.size)
  obtain ⟨q, c3, rfl, hq3, hrd3⟩ : ∃ b c, v3 = .slice (some ⟨b, 0, none⟩) n3 c ∧ w.heap.size ≤ b ∧ Rd w3 w3.heap.size 1 (some ⟨b, 0, none⟩) n3 c (u8s L) := by
    rcases hown3.2 with ⟨_, h0⟩ | ⟨g', cap, cur, rfl, hb, _⟩
    · have := HK.out; omega
    · exact ⟨g', cap, rfl, Nat.le_trans hbW1.size hb, ownsRow_rd hown3⟩
  have k0 : w3.cell? ⟨w.heap.size, 0, none⟩ = some (.int .i64 p) := by
    have hz := HZ.out
    exact kept (hb1.trans (hb3.mono hb1.size)) k0 (by omega)
  have c0 := kept hb03 c0 hTlt
  have c1 := kept hb03 c1 hTlt
  have c2 := kept hb03 c2 hTlt
  have O3 := Lib.hid ((HO.out.mono (Nat.le_refl M) (N' := fun i => N i ∧ i < w.heap.size) (fun i hi hn => ⟨hn, hi⟩)).below hb03)
  have HB03 := Lib.hid hb03
  have HRD3 := Lib.hid hrd3
  clear k1 k2 hown3 hb3 hb1 hrd hfar hrd3 hb03 hbW1
  generalize t.base = b0 at *
  generalize t.size = s0 at *
  obtain ⟨hy0, hy1⟩ := HY.out
  have hx0 : 0 ≤ x := by have := HBB.out.1; omega
  have hx1 : x ≤ 2000000 := by have := HBB.out.2; omega
  have HM9 := Lib.hid hM
  clear hM
  cases hd : d.down with
  | true =>
    have HD := Lib.hid hd
    clear hd
    refine wp_keeps (fun i => N i ∧ i < w.heap.size) [([0, 1, 2, 3, 4, 5, 6, 7, 8, 9, 10, 11, 12, 13, 14, 15, 16], 17)] [18] (by kernel_rfl) (by kernel_rfl) (fun d _ _ _ _ h => by cases d <;> exact h) fun wd hbd => ?_
    intro f hf
    have d0 := fun z => (hf z).cell c0 (fun h => hTN h.1)
    have d1 := fun z => (hf z).cell c1 (fun h => hTN h.1)
    have d2 := fun z => (hf z).cell c2 (fun h => hTN h.1)
    have d3 := fun z => (hf z).cell k0 (fun h => Nat.lt_irrefl _ h.2)
    simp only [pickI, Option.toList_some, List.cons_append, List.nil_append, List.getElem?_toArray, List.getElem?_cons_succ, List.getElem?_cons_zero]
    repeat (go_big_quiet_step (fail))
    refine wpQuiet_nil ?_
    clear d0 d1 d2 d3 hf f
    refine seg_op (by simp only [List.getElem?_toArray, List.getElem?_cons_succ, List.getElem?_cons_zero]; rfl) fun KK hKK => ?_
    go_simp
    refine (own_write_down (O3.out.below hbd) HD.out x _ _ _).mono ?_
    rintro e w4 ⟨rfl, hb4⟩
    have hb34 := hbd.trans (hb4.mono hbd.size)
    have hk4 : Keeps (fun i => N i ∧ i < w.heap.size) w3 w4 := Keeps.of_below hb34
    refine hKK.out _ _ (seg_keep hk4 ?_)
    have HB4 := Lib.hid (HB03.out.trans (hb34.mono HB03.out.size))
    clear hKK KK hb34 hk4 hb4 hbd
    intro f hf
    simp only [pickI, Option.toList_some, List.cons_append, List.nil_append, List.getElem?_toArray, List.getElem?_cons_succ, List.getElem?_cons_zero]
    repeat (go_big_quiet_step (fail))
    refine wpQuiet_nil ?_
    clear hf f
    go_wp2_with (fail)
    go_ret
    rw [HSV.out, if_pos HD.out]
    exact ⟨rfl, (HO.out.below HB4.out).mono (by omega) (fun i _ h => .inl h), Keeps.of_below HB4.out⟩
  | false =>
    have HD := Lib.hid hd
    clear hd
    refine wp_keeps (fun i => N i ∧ i < w.heap.size) [([0, 1, 2, 3, 4, 5, 6, 7, 8, 9, 10, 11, 12, 13, 14, 15, 16], 17)] [18] (by kernel_rfl) (by kernel_rfl) (fun d _ _ _ _ h => by cases d <;> exact h) fun wd hbd => ?_
    intro f hf
    have d0 := fun z => (hf z).cell c0 (fun h => hTN h.1)
    have d1 := fun z => (hf z).cell c1 (fun h => hTN h.1)
    have d2 := fun z => (hf z).cell c2 (fun h => hTN h.1)
    have d3 := fun z => (hf z).cell k0 (fun h => Nat.lt_irrefl _ h.2)
    simp only [pickI, Option.toList_some, List.cons_append, List.nil_append, List.getElem?_toArray, List.getElem?_cons_succ, List.getElem?_cons_zero]
    repeat (go_big_quiet_step (fail))
    refine wpQuiet_nil ?_
    clear d0 d1 d2 d3 hf f
    refine seg_op (by simp only [List.getElem?_toArray, List.getElem?_cons_succ, List.getElem?_cons_zero]; rfl) fun KK hKK => ?_
    go_simp
    have hWr := own_write (O3.out.below hbd) (by have := HM9.out; omega) HD.out x (some ⟨q, 0, none⟩) n3 c3 L ((HRD3.out.below hbd).more hbd.size) (fun _ b o e h => by cases e; have := h.2; omega) hx0 (by have := HXN.out; have := HK.out.2; omega) (by have := HK.out; have := HL.out; omega)
    rw [show (n3 + 63) / 64 = K by have := HK.out.2; omega] at hWr
    have hpw := Dv.write_pw d x L K
    have hsv := HSV.out
    rw [if_neg (by rw [HD.out]; decide)] at hsv
    have HS2 := Lib.hid hsv
    clear hsv HSV
    generalize d.write x L K = r at *
    obtain ⟨d1, er⟩ := r
    dsimp only at hWr hpw HS2
    refine hWr.mono ?_
    rintro e w4 ⟨rfl, hO4, hk4⟩
    have hk34 : Keeps (fun i => N i ∧ i < w.heap.size) w3 w4 := (Keeps.of_below hbd).trans hk4 (fun i h => .inl h)
    refine hKK.out _ _ (seg_keep hk34 ?_)
    have c0 := hk34.cell c0 (fun h => hTN h.1)
    have hkw4 : Keeps N w w4 := (Keeps.of_below HB03.out).trans hk34 (fun i h => .inl h.1)
    have hO4' : Own w4 B g (fun i => N i ∧ i < w.heap.size ∨ w3.heap.size ≤ i) (M + 64) d1 := hO4.mono (Nat.le_refl _) (fun i _ h => h.imp id (fun h => Nat.le_trans hbd.size h))
    have HO4 := Lib.hid hO4'
    have HK4 := Lib.hid hkw4
    clear hKK KK hWr hO4 hO4' hk4 hk34 hkw4 hbd
    intro f hf
    simp only [pickI, Option.toList_some, List.cons_append, List.nil_append, List.getElem?_toArray, List.getElem?_cons_succ, List.getElem?_cons_zero]
    repeat (go_big_quiet_step (fail))
    refine wpQuiet_nil ?_
    clear hf f
    rcases hpw with rfl | rfl
    · go_wp2_with (first
        | (go_at_call 39; refine (own_flush HO4.out (by have := HM9.out; omega)).mono ?_; rintro e w5 ⟨rfl, hO5, hk5⟩)
        | fail)
      go_ret
      rw [HS2.out, if_neg (by decide)]
      have hs3 := HB03.out.size
      have hs4 := HK4.out.size
      refine ⟨rfl, hO5.mono (by omega) (fun i _ h => ?_), HK4.out.trans hk5 (fun i h => h.imp (fun h => h.1) (fun h => Nat.le_trans hs3 h))⟩
      rcases h with (h | h) | h
      · exact .inl h.1
      · exact .inr (Nat.le_trans hs3 h)
      · exact .inr (Nat.le_trans hs4 h)
    · go_wp2_with (fail)
      go_ret
      rw [HS2.out, if_pos (by decide)]
      exact ⟨rfl, HO4.out.mono (by omega) (fun i _ h => h.imp (fun h => h.1) (fun h => Nat.le_trans HB03.out.size h)), HK4.out⟩

end Go.Proofs.Ytddnjlnhnnpgiaa
