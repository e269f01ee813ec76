/- Applied, Heard. -/
import Derived.Test.YtkcpldkdnnhmmaaDy
import Derived.StillTailTactics
namespace Go.Proofs.Ytkcpldkdnnhmmaa
open Go.RowKit
set_option maxRecDepth 20000

section
variable {w w1 w' : World} {B g : Nat} {v : Value} {t t' : Dk} {p : Wt → Bool} {e : Ending}
theorem Mv.pre (k : Keeps (Foot g v) w w1) (m : Mv w1 B g v t' w') : Mv w B g v t' w' := by
  obtain ⟨v', h1, h2, h3⟩ := m
  exact ⟨v', h1, k.trans h2 (fun i hi => .inl hi), h3.imp id (fun h q hq => Nat.le_trans k.size (h q hq))⟩
theorem Freed.pre (k : Keeps (Foot g v) w w1) (m : Freed w1 B g v t p e w') : Freed w B g v t p e w' := by
  obtain ⟨A, c, h1, h2, h3⟩ := m
  exact ⟨A, c, h1, own_base h2 k.size, h3.pre k⟩
theorem Mv.trans {w2 : World} {t2 : Dk} (m : Mv w B g v t w1) (k : ∀ v1, Dg w1 B g v1 t → Mv w1 B g v1 t2 w2) : Mv w B g v t2 w2 := by
  obtain ⟨v1, h1, h2, h3⟩ := m
  obtain ⟨v2, q1, q2, q3⟩ := k v1 h1
  refine ⟨v2, q1, h2.trans q2 (fun i hi => ?_), ?_⟩
  · rcases hi with hi | hi
    · exact .inl (.inl hi)
    · rcases h3 with h3 | h3
      · exact .inl (.inr (h3 ▸ hi))
      · exact .inr (h3 i hi)
  · rcases q3 with q3 | q3
    · rw [q3]; exact h3
    · exact .inr fun q hq => Nat.le_trans h2.size (q3 q hq)
end
theorem applied_any {w : World} {B g : Nat} {v : Value} {t : Dk} (h : Dg w B g v t) (hB : B ≤ w.heap.size) (L M : Nat) (hL : L < 18446744073709551616) (hM : M < 18446744073709551616) :
    Calls Try.prog 21 #[.pointer (some ⟨g, 0, none⟩), .agg #[.int .u64 (L : Int), .int .u64 (M : Int)]] w (Freed w B g v t (Wt.done L M)) := by
  obtain ⟨W, hW, hz, r0, hb⟩ := Qu.boxes1 w #[.int .u64 (L : Int), .int .u64 (M : Int)] 34
  have h1 := h.below hb
  have b0 := cell_of_row W _ 0 _ _ _ r0
  have b1 := cell_of_row W _ 1 _ _ _ r0
  have HM := Lib.hid (made_any h1)
  have HR := Lib.hid (release_any (F := 41) (caps := #[.pointer (some ⟨w.heap.size, 0, none⟩)]) (p := Wt.done L M) h1 (Nat.le_trans hB hb.size) (fun W' hb' x hx => appliedC_any x L M _ W' hL hM (h.ok.ix x hx) (Qu.kept hb' b0 (by omega)) (Qu.kept hb' b1 (by omega))) enters_a)
  have HB := Lib.hid hb
  clear h h1 hb r0 b0 b1 hz
  subst hW
  go_enter Try.func21, Try.ntmps21
  go_wp2_with (first
    | (go_at_call 34; refine HM.out.mono ?_; rintro e w2 ⟨rfl, rfl⟩)
    | (go_at_call 37; refine HR.out.mono ?_; rintro e w2 ⟨A, c, rfl, ho, hm⟩)
    | fail)
  go_ret
  exact ⟨A, c, rfl, own_base ho HB.out.size, hm.pre (Keeps.of_below HB.out)⟩

/-- Whether a node is heard. -/
def Dk.hears (t : Dk) (node : Int) (r : Nat) : Bool := Qu.inB (nset t.n) node && (decide (node ≠ (t.self : Int)) && decide (r ≤ t.round))
def Dk.hearN (t : Dk) (node : Int) (r : Nat) : Dk := if t.hears node r = true then t.hear (t.h.set node.toNat (max (t.h.getD node.toNat 0) r)) else t
theorem Dk.Ok.hear {t : Dk} (h : t.Ok) (k x : Nat) : (t.hear (t.h.set k x)).Ok := ⟨h.n1, h.n7, h.sf, by show (t.h.set k x).length = 7; rw [List.length_set]; exact h.hl, h.room, h.ix⟩
theorem inB_nset {n : Nat} (_ : n ≤ 7) (node : Int) (hb : Qu.inB (nset n) node = true) : ∃ k : Nat, node = (k : Int) ∧ k < n := by
  unfold Qu.inB at hb
  simp only [Bool.and_eq_true, decide_eq_true_eq] at hb
  obtain ⟨h0, h1, h2⟩ := hb
  refine ⟨node.toNat, by omega, ?_⟩
  rw [nset_bit] at h2
  simpa using h2
set_option maxHeartbeats 1000000 in
/-- The rest of Heard, behind what was heard. -/
theorem heard_any {w : World} {B g : Nat} {v : Value} {t : Dk} (h : Dg w B g v t) (hB : B ≤ w.heap.size) (node : Int) (r : Nat) :
    Calls Try.prog 20 #[.pointer (some ⟨g, 0, none⟩), .int .i64 node, .int .u64 (r : Int)] w (Freed w B g v (t.hearN node r) (Wt.upto (t.hearN node r).sure)) := by
  have HM := Lib.hid (made_any h)
  have hq := Qu.has_any (nset t.n) node w (by have := nset_lt h.ok.n7; omega)
  have c0 := h.c0
  have c1 := h.c1
  have c2 := h.c2
  have HH := Lib.hid h
  have HB := Lib.hid hB
  -- what is told once the desk is as it will be
  have hrest : ∀ (w2 : World) (t2 : Dk), Dg w2 B g v t2 → Keeps (Foot g v) w w2 → ∀ w3, Below w2.heap.size w2 w3 → Calls Try.prog 37 #[.pointer (some ⟨g, 0, none⟩), .func (.func 40) #[] #[.pointer (some ⟨w3.heap.size, 0, none⟩)]] (w3.alloc (.cells #[.int .u64 (t2.sure : Int)] 29)) (Freed w B g v t2 (Wt.upto t2.sure)) := by
    intro w2 t2 h2 k2 w3 hb3
    have hb4 : Below w3.heap.size w3 (w3.alloc (.cells #[.int .u64 (t2.sure : Int)] 29)) := (Below.refl _ _).alloc (Nat.le_refl _) _
    have h4 := (h2.below hb3).below hb4
    have r0 := cell_of_row _ _ 0 _ _ _ (heap_alloc_new w3 (.cells #[.int .u64 (t2.sure : Int)] 29))
    refine (release_any (F := 40) (caps := #[.pointer (some ⟨w3.heap.size, 0, none⟩)]) (p := Wt.upto t2.sure) h4 (Nat.le_trans hB (Nat.le_trans k2.size (Nat.le_trans hb3.size hb4.size))) (fun W' hb' x hx => heardC_any x t2.sure _ W' (Qu.kept hb' r0 (by simp))) enters_h).mono fun e w5 hf => ?_
    exact hf.pre ((k2.trans (Keeps.of_below (F := Foot g v) hb3) (fun i hi => .inl hi)).trans (Keeps.of_below (F := Foot g v) hb4) (fun i hi => .inl hi))
  have HREST := Lib.hid hrest
  cases hb : Qu.inB (nset t.n) node with
  | false =>
    have ht : t.hearN node r = t := by unfold Dk.hearN Dk.hears; rw [hb]; rfl
    rw [ht]
    rw [hb] at hq
    have HQ := Lib.hid hq
    have HS := Lib.hid (sure_any h)
    clear h hB hq hrest hb ht
    go_enter Try.func20, Try.ntmps20
    go_wp2_with (first
      | (go_at_call 34; refine HM.out.mono ?_; rintro e w2 ⟨rfl, rfl⟩)
      | (go_at_call 39; refine HQ.out.mono ?_; rintro e w2 ⟨rfl, rfl⟩)
      | (go_at_call 15; refine HS.out.mono ?_; rintro e w3 ⟨rfl, hb3⟩)
      | (go_at_call 37; refine (HREST.out _ t HH.out (Keeps.refl _ _) _ hb3).mono ?_; rintro e w2 ⟨A, c, rfl, ho, hm⟩)
      | fail)
    go_ret
    exact ⟨A, c, rfl, ho, hm⟩
  | true =>
    obtain ⟨k, rfl, hk⟩ := inB_nset h.ok.n7 node hb
    rw [hb] at hq
    have HQ := Lib.hid hq
    have hk7 : k < 7 := by have := h.ok.n7; omega
    have hki : (k : Int) < 7 := by omega
    have hki6 : (k : Int) ≤ 6 := by omega
    by_cases hs : k = t.self
    · have ht : t.hearN (k : Int) r = t := by
        unfold Dk.hearN Dk.hears
        rw [hb, show decide ((k : Int) ≠ (t.self : Int)) = false by simp; omega]
        rfl
      rw [ht]
      have HS := Lib.hid (sure_any h)
      subst hs
      clear h hB hq hrest hb ht hk
      go_enter Try.func20, Try.ntmps20
      go_wp2_with (first
        | (go_at_call 34; refine HM.out.mono ?_; rintro e w2 ⟨rfl, rfl⟩)
        | (go_at_call 39; refine HQ.out.mono ?_; rintro e w2 ⟨rfl, rfl⟩)
        | (go_at_call 15; refine HS.out.mono ?_; rintro e w3 ⟨rfl, hb3⟩)
        | (go_at_call 37; refine (HREST.out _ t HH.out (Keeps.refl _ _) _ hb3).mono ?_; rintro e w2 ⟨A, c, rfl, ho, hm⟩)
        | fail)
      go_ret
      exact ⟨A, c, rfl, ho, hm⟩
    · have hs' : ¬ (k : Int) = (t.self : Int) := by omega
      by_cases hr : r ≤ t.round
      · have ht : t.hearN (k : Int) r = t.hear (t.h.set k (max (t.h.getD k 0) r)) := by
          have hh : t.hears (k : Int) r = true := by
            unfold Dk.hears
            rw [hb, show decide ((k : Int) ≠ (t.self : Int)) = true by simp; omega, show decide (r ≤ t.round) = true by simpa using hr]
            decide
          unfold Dk.hearN
          rw [if_pos hh, Int.toNat_natCast]
        rw [ht]
        have hset := fun (W : World) (hbW : Below w.heap.size w W) => (h.below hbW).cell (j := 3 + k) (u := .int .u64 ((max (t.h.getD k 0) r : Nat) : Int)) (t' := t.hear (t.h.set k (max (t.h.getD k 0) r))) (Dk.set_heard h.ok.hl v k _ hk7) rfl (h.ok.hear k _)
        have ch := h.ch hk7
        have fh := h.fr (3 + k)
        have hmx : max ((t.h.getD k 0 : Nat) : Int) (r : Int) = ((max (t.h.getD k 0) r : Nat) : Int) := by omega
        have HMX := Lib.hid hmx
        generalize t.hear (t.h.set k (max (t.h.getD k 0) r)) = t2 at *
        generalize max (t.h.getD k 0) r = mx at *
        generalize t.h.getD k 0 = hk0 at *
        have HSET := Lib.hid hset
        have HS := Lib.hid (fun W hbW => sure_any (hset W hbW).1)
        have d0 : decide ((k : Int) = (t.self : Int)) = false := by simpa using hs'
        have d2 : decide ((r : Int) ≤ (t.round : Int)) = true := by rw [le_nat]; simpa using hr
        have d3 : (r : Int) ≤ (t.round : Int) := by omega
        clear h hB hq hrest hb ht hk hs hset hmx
        go_enter Try.func20, Try.ntmps20
        go_wp2_with (first
          | (go_at_call 34; refine HM.out.mono ?_; rintro e w2 ⟨rfl, rfl⟩)
          | (go_at_call 39; refine HQ.out.mono ?_; rintro e w2 ⟨rfl, rfl⟩)
          | fail)
        go_still_tail 13, (by kernel_rfl)
        change wpList _ _ _ _ _ w.drew
        have hbd : Below w.heap.size w w.drew := (Below.refl _ _).drew
        have fd := frozen_of_row w.drew g (3 + k) _ _ (HH.out.below hbd).row
        have cd := (HH.out.below hbd).ch hk7
        have HBD := Lib.hid hbd
        generalize w.drew = wD at *
        have HS1 := Lib.hid (HS.out wD HBD.out)
        have HSE := Lib.hid (HSET.out wD HBD.out)
        rw [HMX.out]
        clear hbd
        go_wp2_with (first
          | (go_at_call 15; refine HS1.out.mono ?_; rintro e w3 ⟨rfl, hb3⟩)
          | (go_at_call 37; refine (HREST.out _ t2 HSE.out.1 ((Keeps.of_below (F := Foot g v) HBD.out).trans HSE.out.2 (fun i hi => .inl hi)) _ hb3).mono ?_; rintro e w2 ⟨A, c, rfl, ho, hm⟩)
          | fail)
        go_ret
        exact ⟨A, c, rfl, ho, hm⟩
      · have ht : t.hearN (k : Int) r = t := by
          unfold Dk.hearN Dk.hears
          rw [hb, show decide (r ≤ t.round) = false by simpa using hr]
          simp
        rw [ht]
        have HS := Lib.hid (sure_any h)
        have d0 : decide ((k : Int) = (t.self : Int)) = false := by simpa using hs'
        have d2 : decide ((r : Int) ≤ (t.round : Int)) = false := by rw [le_nat]; simpa using hr
        have d3 : ¬ (r : Int) ≤ (t.round : Int) := by omega
        clear h hB hq hrest hb ht hk hs
        go_enter Try.func20, Try.ntmps20
        go_wp2_with (first
          | (go_at_call 34; refine HM.out.mono ?_; rintro e w2 ⟨rfl, rfl⟩)
          | (go_at_call 39; refine HQ.out.mono ?_; rintro e w2 ⟨rfl, rfl⟩)
          | (go_at_call 15; refine HS.out.mono ?_; rintro e w3 ⟨rfl, hb3⟩)
          | (go_at_call 37; refine (HREST.out _ t HH.out (Keeps.refl _ _) _ hb3).mono ?_; rintro e w2 ⟨A, c, rfl, ho, hm⟩)
          | fail)
        go_ret
        exact ⟨A, c, rfl, ho, hm⟩
end Go.Proofs.Ytkcpldkdnnhmmaa
