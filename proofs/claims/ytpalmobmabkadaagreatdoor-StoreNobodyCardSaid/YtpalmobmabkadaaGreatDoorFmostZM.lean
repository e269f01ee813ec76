/- The document's own Read (keelsonref05). frame.Most. -/
import Derived.Test.YtpalmobmabkadaaGreatDoorFrefZM
import Derived.Test.YtpalmobmabkadaaGreatDoorDeviZM
namespace Go.Proofs.YtpalmobmabkadaaGreatDoor
set_option maxRecDepth 20000
open Go.RowKit

/-- x[lo:], whatever its capacity. -/
theorem run_from {P : Program} {t e : TypeId} (ht : P.underlying t = some (.slice e)) (hz : (P.info? e).map (·.size) = some 1) {w : World} {B n c : Nat} {A : Option Addr} {xs : List Value} (h : Rd w B 1 A n c xs) (lo : Nat) (hlo : lo ≤ n) :
    ∃ A', (∀ W, (Instr.sliceAt t (.slice A n c) (some (.int .i64 (lo : Int))) none none).run P W = .ok (.slice A' (n - lo) (c - lo)) W) ∧ Rd w B 1 A' (n - lo) (c - lo) (xs.drop lo) := by
  obtain ⟨i, hi, hi1⟩ : ∃ i, P.info? e = some i ∧ i.size = 1 := by
    cases hi : P.info? e with
    | none => rw [hi] at hz; cases hz
    | some i => rw [hi] at hz; exact ⟨i, rfl, by simpa using hz⟩
  have hc := h.1
  have hl := h.len
  refine ⟨if c = lo then A else A.map (·.add lo), fun W => ?_, ?_⟩
  · simp [Instr.sliceAt, Instr.slice, Instr.sliceBounds, Instr.sliceBound, asIntOf, run_underlying ht, hlo, Go.sizeOf, Go.typeInfo, hi, hi1, Result.andThen]
  · by_cases hcl : c = lo
    · rw [if_pos hcl]
      have e1 : n - lo = 0 := by omega
      have e2 : xs.drop lo = [] := List.drop_of_length_le (by omega)
      rw [e1, e2]
      exact Rd.empty (by have := h.2.1; omega)
    · rw [if_neg hcl]
      have := h.cut (k := lo) (m := n - lo) (by omega)
      rwa [List.take_of_length_le (by rw [List.length_drop]; omega)] at this

theorem below_drewN {B : Nat} {w w1 : World} (h : Below B w w1) (n : Nat) : Below B w (w1.drewN n) := ⟨h.os, h.tape, h.output, h.size, h.block⟩
theorem Rd.drewN {w : World} {B sz m c : Nat} {A : Option Addr} {xs : List Value} (h : Rd w B sz A m c xs) (n : Nat) : Rd (w.drewN n) B sz A m c xs := h
theorem readOf_size (l : List UInt8) (h : (sizeOf l).2 ≠ 0) : readOf l = (0, [], (sizeOf l).2) := by unfold readOf; rw [if_pos h]
theorem readOf_join (l : List UInt8) (sz : Nat) (hs : sizeOf l = (sz, 0)) (h : (joinedOf l (sectorsOf sz) (headsOf l)).2 ≠ 0) : readOf l = (0, [], (joinedOf l (sectorsOf sz) (headsOf l)).2) := by
  unfold readOf; rw [hs]; rw [if_neg (by simp), if_pos h]
theorem readOf_open (l : List UInt8) (sz : Nat) (body : List UInt8) (hs : sizeOf l = (sz, 0)) (hj : joinedOf l (sectorsOf sz) (headsOf l) = (body, 0)) : readOf l = if (openedOf body sz).2 ≠ 0 then (0, [], (openedOf body sz).2) else (headsOf l, (openedOf body sz).1, 0) := by
  unfold readOf; rw [hs]; simp only; rw [hj]; simp only; rw [if_neg (by simp), if_neg (by simp)]

def Early (l : List UInt8) (E : Int) : Prop := readOf l = (0, [], E)
theorem tells_early {w w' : World} {l : List UInt8} {E : Int} (h : Hid (readOf l = (0, [], E))) (hb : Below w.heap.size w w') : Tells3 w (readOf l) (.returned (.tuple #[.int .u64 0, .slice none 0 0, .int .i64 E])) w' := by
  rw [h.out]
  exact ⟨none, 0, 0, rfl, rfl, Rd.nil_, hb⟩
theorem ref_num4 (t : List UInt8) (ht : t.length = 4) : ((refSt t 0 false).num 4).1 = unle t := by
  unfold refSt
  simp only [Bool.false_eq_true, if_false, List.drop_zero]
  rw [show St.num ⟨t, false⟩ 4 = (unle t, ⟨[], false⟩) from st_num t 4 (by omega) (by omega) ht]

end Go.Proofs.YtpalmobmabkadaaGreatDoor

namespace Go.Proofs.YtpalmobmabkadaaGreatDoor
set_option maxRecDepth 20000
open Go.RowKit
attribute [local go_sem] Oper.semAt_some

theorem ends_short (l : List UInt8) (h : l.length < 64) : headsOf l = 0 ∧ tailsOf l = 0 := by
  unfold headsOf tailsOf
  rw [if_pos h, if_pos h]
  exact ⟨rfl, rfl⟩
theorem mostOf_ceil (l : List UInt8) : mostOf l ((l.length + 63) / 64) = mostOf l (l.length / 64) := by
  rcases Nat.lt_or_ge (l.length / 64) ((l.length + 63) / 64) with h | h
  · have e : (l.length + 63) / 64 = l.length / 64 + 1 := by omega
    rw [e, mostOf]
    have hs := ends_short (sect l (l.length / 64)) (by unfold sect; rw [List.length_take, List.length_drop]; omega)
    rw [hs.1, hs.2]
    omega
  · have e : (l.length + 63) / 64 = l.length / 64 := by omega
    rw [e]

/-- Between two rounds. -/
structure MJ (w : World) (A : Option Addr) (n c : Nat) (l : List UInt8) (k : Nat) (W : World) : Prop where
  num : W.heap[w.heap.size]? = some (.cells #[.int .u64 ((mostOf l k : Nat) : Int)] 34 (0, 0))
  b1 : W.heap[w.heap.size + 1]? = some (.cells #[.slice A n c] 86 (0, 0))
  b2 : W.heap[w.heap.size + 2]? = some (.cells #[.int .i64 64] 3 (0, 0))
  bel : Below w.heap.size w W
theorem MJ.step {w W W' : World} {n c k : Nat} {A : Option Addr} {l : List UInt8} (h : MJ w A n c l k W) {row : Option Nat} (hg : W.grownBy W' row) (hr : ∀ r, row = some r → w.heap.size + 3 ≤ r) : MJ w A n c l k W' := by
  have far : ∀ b, b < w.heap.size + 3 → some b ≠ row := fun b hb e => by have := hr b e.symm; omega
  exact ⟨row_far h.num hg (far _ (by omega)), row_far h.b1 hg (far _ (by omega)), row_far h.b2 hg (far _ (by omega)), h.bel.grown hg h.bel.size (fun r e => by have := hr r e; omega)⟩
theorem MJ.below {w W W' : World} {n c k : Nat} {A : Option Addr} {l : List UInt8} (h : MJ w A n c l k W) (hb : Below W.heap.size W W') : MJ w A n c l k W' :=
  h.step (below_grown hb none) (fun r e => by cases e)
theorem MJ.drewN {w W : World} {n c k : Nat} {A : Option Addr} {l : List UInt8} (h : MJ w A n c l k W) (d : Nat) : MJ w A n c l k (W.drewN d) :=
  h.below ⟨rfl, rfl, rfl, Nat.le_refl _, fun _ _ => rfl⟩
theorem MJ.robust {w : World} {n c k : Nat} {A : Option Addr} {l : List UInt8} : Robust (w.heap.size + 3) (MJ w A n c l k) := fun W r o h hr hlt =>
  h.step (grownBy_putObj' W r o) (fun q e => by have := Option.some.inj e; omega)

theorem MJ.put {w W W2 : World} {n c x : Nat} {A : Option Addr} {l : List UInt8} (hJ : MJ w A n c l x W) (hb2 : Below W.heap.size W W2) (hlt : w.heap.size + 3 + 1 < W.heap.size) (v : Nat) (hv : v = mostOf l (x + 1)) :
    KeepsRec (w.heap.size + 3) W (W2.setCell ⟨w.heap.size, 0, none⟩ (.int .u64 (v : Int))) ∧ MJ w A n c l (x + 1) (W2.setCell ⟨w.heap.size, 0, none⟩ (.int .u64 (v : Int))) := by
  have gs := setCell_grown W2 w.heap.size (.int .u64 (v : Int))
  have hJ2 := hJ.below hb2
  have hz2 := hb2.size
  refine ⟨(KeepsRec.below hb2 (by omega)).trans (KeepsRec.grown gs (by omega) (fun r hr => by have := Option.some.inj hr; omega)), ?_, row_far hJ2.b1 gs (fun e => by have := Option.some.inj e; omega), row_far hJ2.b2 gs (fun e => by have := Option.some.inj e; omega), hJ2.bel.grown gs hJ2.bel.size (fun q e => by have := Option.some.inj e; omega)⟩
  rw [heap_setCell_same W2 w.heap.size 0 _ _ _ hJ2.num, hv]
  rfl

set_option maxHeartbeats 4000000 in
set_option maxRecDepth 8000 in
theorem most_any (A : Option Addr) (n c : Nat) (l : List UInt8) (w : World) (h : Rd w w.heap.size 1 A n c (u8s l)) (hn : n ≤ 1000000) :
    Calls Tryz.prog 71 #[.slice A n c] w fun e w' => e = .returned (.int .u64 ((mostOf l (n / 64) : Nat) : Int)) ∧ Below w.heap.size w w' := by
  have hln : l.length = n := by have := h.len; rwa [u8s_len] at this
  have hceil := mostOf_ceil l
  rw [hln] at hceil
  rw [← hceil]
  have HLN := Lib.hid hln
  clear hceil hln
  obtain ⟨b, o, hA, hcell⟩ : ∃ b o, (0 < n → A = some ⟨b, o, none⟩) ∧ ∀ W, Below w.heap.size w W → ∀ k, 64 * k < n → Rd W W.heap.size 1 (some ⟨b, o + 64 * k, none⟩) (min 64 (n - 64 * k)) (min 64 (n - 64 * k)) (u8s (sect l k)) := by
    by_cases h0 : 0 < n
    · obtain ⟨b, o, rfl, hb, _⟩ := h.2.2.2 h0
      refine ⟨b, o, fun _ => rfl, fun W hW k hk => ?_⟩
      have h1 := ((h.below hW).more hW.size).cut (k := 64 * k) (m := min 64 (n - 64 * k)) (by omega)
      have e : ((u8s l).drop (64 * k)).take (min 64 (n - 64 * k)) = u8s (sect l k) := by
        unfold sect
        rw [u8s_take, u8s_drop]
        rcases Nat.le_total 64 (n - 64 * k) with h2 | h2
        · rw [Nat.min_eq_left h2]
        · rw [Nat.min_eq_right h2, List.take_of_length_le (by rw [List.length_drop, u8s_len, HLN.out]; exact Nat.le_refl _), List.take_of_length_le (by rw [List.length_drop, u8s_len, HLN.out]; exact h2)]
      rw [e, Option.map_some, addOff] at h1
      exact ⟨Nat.le_refl _, by unfold maxLen; omega, h1.2.2.1, h1.2.2.2⟩
    · exact ⟨0, 0, fun h => absurd h h0, fun W _ k hk => by omega⟩
  have HA := Lib.hid hA
  have HC := Lib.hid hcell
  clear hA hcell
  obtain ⟨P, hP⟩ : ∃ P : Ending → World → Prop, P = fun e w' => e = .returned (.int .u64 ((mostOf l ((n + 63) / 64) : Nat) : Int)) ∧ Below w.heap.size w w' := ⟨_, rfl⟩
  rw [← hP]
  have HPP := Lib.hid hP
  clear hP
  refine (callsIn_wide (n := 9)).1 ?_
  refine callsIn_of_wp_marks Tryz.func71 rfl trivial ?_ rfl
  simp only [Tryz.ntmps71, List.size_toArray, List.length_nil, List.length_cons, Nat.reduceAdd, Nat.reduceSub, Array.replicate_succ, Array.replicate_zero, List.push_toArray, List.append_toArray, List.nil_append, List.cons_append]
  gi_wp2_with (first
    | (refine ⟨trivial, ?_⟩; gi_at_call 107; refine (callsIn_wide.2 (chunk_any _ _ _ _)).mono ?_; rintro e w5 ⟨rfl, hr5, hr6, hz5, hb5⟩))
  have hb0 : Below w.heap.size w (w.alloc (.cells #[.int .u64 0] 34)) := (Below.refl _ _).alloc (Nat.le_refl _) _
  have g0 : (w.alloc (.cells #[.int .u64 0] 34)).heap[w.heap.size]? = some (.cells #[.int .u64 0] 34 (0, 0)) := heap_alloc_new w _
  simp only [World.size_alloc] at hr5 hr6 hz5 hb5
  have hb5' : Below (w.alloc (.cells #[.int .u64 0] 34)).heap.size (w.alloc (.cells #[.int .u64 0] 34)) w5 := by simpa using hb5
  have hJ0 : MJ w A n c l 0 w5 := ⟨row_below g0 hb5', hr5, hr6, hb0.trans (hb5'.mono (by simp))⟩
  have hz0 : w5.heap.size = w.heap.size + 3 := by omega
  clear hr5 hr6 hz5 hb5 hb5' g0 hb0
  refine wpIn_rangeJ rfl (by omega) (gf := 130) (lb := #[.pointer (some ⟨w.heap.size + 1, 0, none⟩), .pointer (some ⟨w.heap.size + 2, 0, none⟩)]) rfl trivial (enters_of Tryz.func130 (by kernel_rfl) rfl)
    (encs := fun x : Nat => #[chunkw b o n x]) (fun _ => rfl)
    (fun j => MJ w A n c l j) (fun j x W => x = j ∧ MJ w A n c l j W)
    (fun _ _ => False) ((n + 63) / 64) ?hJ ?hJ' ?hJx ?h0 ?hiter
    (fun x => { tmps := #[.slice A n c, undef, .int .u64 0, .pointer (some ⟨w.heap.size, 0, none⟩), chunkw b o n x, undef, undef, .slice A n c, .func (.func 130) #[] #[.pointer (some ⟨w.heap.size + 1, 0, none⟩), .pointer (some ⟨w.heap.size + 1 + 1, 0, none⟩)], chunkw b o n x, undef, undef, undef, undef, undef, undef, undef, undef, undef, undef], defers := [] })
    ?assign ?body ?done ?stop
  case hJ =>
    rw [hz0]
    exact fun j => MJ.robust
  case hJ' =>
    rw [hz0]
    exact fun j x W r o' hh hr hl => ⟨hh.1, MJ.robust W r o' hh.2 hr hl⟩
  case hJx => exact fun c W r o hh _ _ => hh.elim
  case h0 =>
    intro o1 o2
    exact (hJ0.below ((Below.refl _ _).alloc (Nat.le_refl _) _)).below ((Below.refl _ _).alloc (Nat.le_refl _) _)
  case hiter =>
    intro l0 R Rx hR hY hRs hRx W hJW hRW
    refine (chunk2_in 8 l0 (w.heap.size + 1) (w.heap.size + 2) b o n c A HA.out (fun j => MJ w A n c l j) R Rx (by omega) h.1 hn ?_ ?_ ?_ W hJW hRW)
    · exact fun j W hJ _ => ⟨cell_of_row W _ 0 _ _ _ hJ.b1, cell_of_row W _ 0 _ _ _ hJ.b2⟩
    · exact fun j W d hJ hRj => ⟨hJ.drewN d, hR _ _ hRj ⟨Nat.le_refl _, rfl, rfl⟩⟩
    · exact fun j W hj hJ hRj => hY j j W (by omega) ⟨rfl, hJ⟩ hRj
  case assign =>
    intro l0 x W K hK
    gi_wp2
    exact hK
  case body =>
    rintro l0 j x W hj ⟨rfl, hJ⟩ hlt2
    rw [hz0] at hlt2
    have hsl := HC.out W hJ.bel x (by omega)
    unfold chunkw
    have hE := ends_any _ _ _ _ W hsl (by omega)
    obtain ⟨m, hm⟩ : ∃ m, m = min 64 (n - 64 * x) := ⟨_, rfl⟩
    rw [← hm] at hE ⊢
    have e3 : mostOf l (x + 1) = max (mostOf l x) (max (headsOf (sect l x)) (tailsOf (sect l x))) := rfl
    obtain ⟨q, hq⟩ : ∃ q, q = mostOf l x := ⟨_, rfl⟩
    obtain ⟨a, ha⟩ : ∃ a, a = headsOf (sect l x) := ⟨_, rfl⟩
    obtain ⟨t, ht⟩ : ∃ t, t = tailsOf (sect l x) := ⟨_, rfl⟩
    rw [← ha, ← ht] at hE
    rw [← hq, ← ha, ← ht] at e3
    have HE := Lib.hid hE
    have HE3 := Lib.hid e3
    have hcq : W.cell? ⟨w.heap.size, 0, none⟩ = some (.int .u64 (q : Int)) := by rw [hq]; exact cell_of_row W _ 0 _ _ _ hJ.num
    have HJ := Lib.hid hJ
    clear hE e3 hq ha ht hm hsl hJ
    gi_wp2_with (first
      | (refine ⟨trivial, ?_⟩; gi_at_call 108; refine (CallsIn.inRound l0 (callsIn_wide.2 HE.out)).mono ?_; rintro e W2 ⟨rfl, hb2⟩
         have hJ2 := HJ.out.below hb2
         have d5 : W2.cell? ⟨w.heap.size, 0, none⟩ = some (.int .u64 (q : Int)) := (hb2.cell (p := ⟨w.heap.size, 0, none⟩) (by show w.heap.size < W.heap.size; omega)).trans hcq
         have f5 : W2.frozen? ⟨w.heap.size, 0, none⟩ = false := frozen_of_row W2 _ 0 _ _ hJ2.num))
    all_goals refine MJ.put HJ.out hb2 hlt2 _ ?_
    all_goals rw [HE3.out]
    all_goals first
      | omega
      | (rename_i h1 h2; first | (rw [if_pos h2] at h1; omega) | (rw [if_neg h2] at h1; omega))
      | (rename_i h1; split at h1 <;> omega)
  case done =>
    intro W hJ hk
    have d0 : W.cell? ⟨w.heap.size, 0, none⟩ = some (.int .u64 ((mostOf l ((n + 63) / 64) : Nat) : Int)) := cell_of_row W _ 0 _ _ _ hJ.num
    have HJ := Lib.hid hJ
    clear hJ
    rw [hz0] at hk ⊢
    gi_wp2
    have gd := grownBy_putObj' W (w.heap.size + 3) (.deferred none)
    refine ⟨by simp, .inl ⟨_, _, rfl, run_takeDeferred hk, ?_⟩⟩
    refine ⟨_, results_tmp (fn := Tryz.f71) rfl _ _ _, ?_⟩
    rw [HPP.out]
    exact ⟨rfl, HJ.out.bel.grown gd HJ.out.bel.size (fun q e => by have := Option.some.inj e; omega)⟩
  case stop => exact fun c W hh _ => hh.elim

end Go.Proofs.YtpalmobmabkadaaGreatDoor
