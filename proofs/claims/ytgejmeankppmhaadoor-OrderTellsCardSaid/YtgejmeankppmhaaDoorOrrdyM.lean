/- The reference's Ready. -/
import Derived.Test.YtgejmeankppmhaaDoorOrnextM
import Derived.Deep.AppendSrc
namespace Go.Proofs.YtgejmeankppmhaaDoor
open Go.RowKit
open Bh (En Ents ens ens_get ecell)
set_option maxRecDepth 20000

theorem El64 : Elem Tryd.prog 58 23 (.int .u64 0) 1 8 := Elem.mk_ Tryd.underlying58 (by kernel_rfl) rfl (by decide)
theorem pair_there {w : World} {b : Nat} {a c : Value} {t : TypeId} (h : w.heap[b]? = some (.cells #[a, c] t (0, 0))) : w.there b 0 2 := fun j hj => by
  refine ⟨?_, frozen_of_row w b _ _ _ h⟩
  rw [cell_of_row w b (0 + j) _ _ _ h, Array.getElem?_eq_getElem (by simp; omega)]
  rfl
theorem pair_set {w : World} {b : Nat} {a c x y : Value} {t : TypeId} (h : w.heap[b]? = some (.cells #[a, c] t (0, 0))) : (w.setCells b 0 [x, y]).heap[b]? = some (.cells #[x, y] t (0, 0)) ∧ w.grownBy (w.setCells b 0 [x, y]) (some b) :=
  heap_setCells [x, y] 0 w [a, c] (Nat.le_refl _) h
theorem u64s_app (l k : List Nat) : u64s (l ++ k) = u64s l ++ u64s k := by simp [u64s]
theorem NX.far {w wr w' : World} {p4 p5 La Ba L B : Nat} (h : NX w wr p4 p5 La Ba L B) {row : Option Nat} (hg : wr.grownBy w' row) (h4 : some p4 ≠ row) (h5 : some p5 ≠ row) (hr : ∀ k, row = some k → w.heap.size ≤ k) : NX w w' p4 p5 La Ba L B :=
  ⟨row_far h.r4 hg h4, row_far h.r5 hg h5, h.bel.grown hg h.bel.size hr⟩
theorem NX.set5 {w wr : World} {p4 p5 La Ba L B : Nat} (h : NX w wr p4 p5 La Ba L B) (hne : p4 ≠ p5) (hp : w.heap.size ≤ p5) (M1 M2 : Nat) : NX w (wr.setCells p5 0 [.int .u64 (M1 : Int), .int .u64 (M2 : Int)]) p4 p5 La Ba M1 M2 := by
  have hs := pair_set (x := .int .u64 (M1 : Int)) (y := .int .u64 (M2 : Int)) h.r5
  exact ⟨row_far h.r4 hs.2 (fun e => hne (Option.some.inj e)), hs.1, h.bel.grown hs.2 h.bel.size (fun k e => by cases e; exact hp)⟩
def slen : Value → Nat
  | .slice _ n _ => n
  | _ => 0
/-- A slice of numbers is told. -/
def TellsL (w : World) (p : List Nat → Prop) (e : Ending) (w' : World) : Prop := ∃ l, p l ∧ (∃ A c, e = .returned (.slice A l.length c) ∧ Rd w' w'.heap.size 1 A l.length c (u64s l)) ∧ Below w.heap.size w w'
theorem next_zero {La Ba L B : Nat} {es : List En} (h : NextIs La Ba es L B 0) : ∀ z, cand La Ba es L B z = false := by
  rcases h with ⟨_, h⟩ | ⟨h, _⟩
  · exact h
  · have := cand_low h
    omega
theorem next_pos {La Ba L B y : Nat} {es : List En} (h : NextIs La Ba es L B y) (h0 : y ≠ 0) : cand La Ba es L B y = true ∧ ∀ z, cand La Ba es L B z = true → y ≤ z := by
  rcases h with ⟨h, _⟩ | h
  · exact absurd h h0
  · exact h
/-- Between two rounds of Ready: acc is told, marks are Lt, Bt. -/
structure RJ (La Ba : Nat) (es : List En) (L B : Nat) (acc : List Nat) (Lt Bt : Nat) : Prop where
  so : SoFar La Ba es L B acc Lt Bt
  gd : Gd Lt Bt
  bt : Bt < 18446744073709551616
  un : acc.length + undone es Lt Bt ≤ es.length
theorem RJ.start {La Ba L B : Nat} {es : List En} (hg : Gd L B) (hB : B < 18446744073709551616) : RJ La Ba es L B [] L B := ⟨SoFar.nil La Ba es L B, hg, hB, by have := undone_le es L B; simpa using this⟩
theorem RJ.next {La Ba L B Lt Bt y : Nat} {es : List En} {acc : List Nat} (h : RJ La Ba es L B acc Lt Bt) (hy : NextIs La Ba es Lt Bt y) (h0 : y ≠ 0) : RJ La Ba es L B (acc ++ [y]) (mset Lt Bt y).1 (mset Lt Bt y).2 := by
  obtain ⟨h1, h2⟩ := next_pos hy h0
  have hr := (cand_room h1).1
  have hu := undone_lt h.bt h1
  refine ⟨h.so.snoc h1 h2, mset_gd Lt Bt y h.bt hr h.gd, mset_lt Lt Bt y h.bt hr, ?_⟩
  have := h.un
  rw [List.length_append]
  simp
  omega
set_option maxHeartbeats 8000000 in
theorem rready_any {w : World} {A : Option Addr} {n c : Nat} {es : List En} (h : Ents w A n c es) (hn : n ≤ 40) (La Ba L B : Nat) (hLa : La < 18446744073709551616) (hBa : Ba < 18446744073709551616) (hg : Gd L B) (hB : B < 18446744073709551616) :
    Calls Tryd.prog 16 #[.slice A n c, .agg #[.int .u64 (La : Int), .int .u64 (Ba : Int)], .agg #[.int .u64 (L : Int), .int .u64 (B : Int)]] w (TellsL w (Rdy La Ba es L B)) := by
  have HH := Lib.hid h
  have HG := Lib.hid (RJ.start (La := La) (Ba := Ba) (es := es) hg hB)
  have HLA := Lib.hid (And.intro hLa hBa)
  clear h hLa hBa hg hB
  have HN0 := Lib.hid (nx_new w La Ba L B)
  go_enter Tryd.func16, Tryd.ntmps16
  go_wp2
  generalize (w.alloc (.cells #[.int .u64 (La : Int), .int .u64 (Ba : Int)] 37)).alloc (.cells #[.int .u64 (L : Int), .int .u64 (B : Int)] 37) = W at *
  obtain ⟨p4, hp4⟩ : ∃ p4, w.heap.size = p4 := ⟨_, rfl⟩
  obtain ⟨p5, hp5⟩ : ∃ p5, w.heap.size + 1 = p5 := ⟨_, rfl⟩
  simp only [hp5] at HN0 ⊢
  have HN00 : Hid (NX w W p4 p5 La Ba L B) := hp4 ▸ HN0
  rw [hp4]
  have HPP := Lib.hid (show w.heap.size ≤ p4 ∧ p5 = p4 + 1 by omega)
  clear HN0 hp4 hp5
  go_loopw [7] (fun vr wr => ∃ (acc : List Nat) (Lt Bt : Nat), Hid (RJ La Ba es L B acc Lt Bt) ∧ Hid (wr.ownsRow (p5 + 1) 23 1 vr acc.length (u64s acc)) ∧ Hid (NX w wr p4 p5 La Ba Lt Bt)) (fun vr _ => 41 - slen vr)
  case atStart => exact ⟨[], L, B, HG, Lib.hid (World.ownsRow_nil _ _ _ _), HN00⟩
  case round =>
    obtain ⟨acc, Lt, Bt, HJ, HO, HN⟩ := hrel
    obtain ⟨A2, c2, rfl⟩ := ownsRow_form HO.out
    have hle : acc.length ≤ n := by have := HJ.out.un; have := HH.out.len; omega
    have hnn : (n : Int) ≤ 40 := by omega
    have HX := Lib.hid (rnext_any (HH.out.below HN.out.bel) La Ba Lt Bt HLA.out.1 HLA.out.2 HJ.out.gd HJ.out.bt)
    have f40 := cell_of_row wr p4 0 _ _ _ HN.out.r4
    have f41 := cell_of_row wr p4 1 _ _ _ HN.out.r4
    have f50 := cell_of_row wr p5 0 _ _ _ HN.out.r5
    have f51 := cell_of_row wr p5 1 _ _ _ HN.out.r5
    go_wp2_with (first
      | (go_at_call 37; refine HX.out.mono ?_; rintro e w1 ⟨⟨y, rfl, hy⟩, hb1⟩
         have HY := Lib.hid hy
         have HN1 := Lib.hid (HN.out.below hb1)
         have HO1 := Lib.hid (own_below HO.out hb1)
         have hz5 : p5 < w1.heap.size := (Array.getElem?_eq_some_iff.1 HN1.out.r5).1
         clear hy hb1 f40 f41 f50 f51 HX)
      | (at_builtin; refine wpL_app rfl _ _ _ _ rfl El64 rfl rfl (HO1.out.alloc _) (Src.lit Tryd.underlying58 _ rfl (by intro u hu; simp at hu; subst hu; rfl)) (by unfold maxLen; omega) (by omega) (by simp; omega) ?_; intro v2 w2 hown2 hg2 hat2
         have hHB := (Below.refl w1.heap.size w1).alloc (Nat.le_refl _) (.cells #[.int .u64 (y : Int)] 23)
         have HN2 := Lib.hid ((HN1.out.below hHB).far hg2 (fun e => by have := (HO1.out.lt _ e.symm).1; have := HPP.out; omega) (fun e => by have := (HO1.out.lt _ e.symm).1; have := HPP.out; omega) (fun k e => by have := (HO1.out.lt _ e).1; have := HPP.out; omega))
         have HO2 := Lib.hid hown2
         have g50 := cell_of_row w2 p5 0 _ _ _ HN2.out.r5
         have g51 := cell_of_row w2 p5 1 _ _ _ HN2.out.r5
         clear hown2 hHB hg2 hat2 HN1)
      | (go_at_call 29; refine (rset_ok Lt Bt y _ HJ.out.bt HJ.out.gd (cand_room (next_pos HY.out (by have := ‹((y : Int) == 0) = false›; simpa using this)).1).1).mono ?_; rintro e w3 ⟨rfl, hb3⟩
         have HN3 := Lib.hid (HN2.out.below hb3)
         have HO3 := Lib.hid (own_below HO2.out hb3)
         clear hb3 g50 g51 HN2 HO2)
      | (first
          | refine wpList_store_mid rfl _ (.tmp 5) (.tmp 29) rfl p5 0 #[.int .u64 ((mset Lt Bt y).1 : Int), .int .u64 ((mset Lt Bt y).2 : Int)] rfl rfl (pair_there HN3.out.r5) imB.msize (pair_one _ _) ?_
          | refine wp_store_mid _ (.tmp 5) (.tmp 29) rfl p5 0 #[.int .u64 ((mset Lt Bt y).1 : Int), .int .u64 ((mset Lt Bt y).2 : Int)] rfl rfl (pair_there HN3.out.r5) imB.msize (pair_one _ _) ?_)
      | fail)
    · go_ret
      have h0 := ‹((y : Int) == 0) = true›
      obtain rfl : y = 0 := by simpa using h0
      exact ⟨acc, HJ.out.so.done (next_zero HY.out), ⟨A2, c2, rfl, ownsRow_rd HO1.out⟩, HN1.out.bel⟩
    · have h0 := ‹((y : Int) == 0) = false›
      have hy0 : y ≠ 0 := by simpa using h0
      obtain ⟨A3, c3, rfl⟩ := ownsRow_form HO3.out
      have hps := pair_set (x := .int .u64 ((mset Lt Bt y).1 : Int)) (y := .int .u64 ((mset Lt Bt y).2 : Int)) HN3.out.r5
      have hk := HO3.out.kept hps.2 (.inr (fun e => by have := (HO3.out.lt _ e).1; omega))
      have HK := Lib.hid hk
      have HNE := Lib.hid (HN3.out.set5 (by have := HPP.out; omega) (by have := HPP.out; omega) (mset Lt Bt y).1 (mset Lt Bt y).2)
      clear hps hk
      go_simp
      go_roundw
      case rel =>
        refine ⟨acc ++ [y], _, _, Lib.hid (HJ.out.next HY.out hy0), Lib.hid ?_, HNE⟩
        rw [List.length_append, u64s_app]
        exact HK.out
      case measure => simp [slen]; omega
end Go.Proofs.YtgejmeankppmhaaDoor
