/- What is committed. What is committed, on numbers: it stays so, and hangs on who has what alone. The reference's window in memory; New, Has, Who, all. -/
import Derived.Test.YtjhakplaffgkpaaDoorWsdM
import Derived.Test.YtjhakplaffgkpaaDoorMmadeM
import Derived.Test.YtjhakplaffgkpaaDoorQhM
import Derived.Test.YtjhakplaffgkpaaDoorRowkitbM
namespace Go.Proofs.YtjhakplaffgkpaaDoor
open Go.RowKit
set_option maxRecDepth 20000

/-- Marks with a number more, if it has room. -/
def msetR (M : Nat × Nat) (x : Nat) : Nat × Nat := if Room M.1 x then mset M.1 M.2 x else M
/-- Marks as they are kept. -/
def MOk (M : Nat × Nat) : Prop := Gd M.1 M.2 ∧ M.2 < 18446744073709551616
theorem MOk.set {M : Nat × Nat} (h : MOk M) (x : Nat) : MOk (msetR M x) := by
  unfold msetR
  split
  · next hr => exact ⟨mset_gd _ _ _ h.2 hr h.1, mset_lt _ _ _ h.2 hr⟩
  · exact h
def Wv.cstep (t : Wv) (M : Nat × Nat) (x : Nat) : Nat × Nat := if Qu.majB (t.who x) t.all = true then msetR M x else M
theorem MOk.cstep {M : Nat × Nat} (h : MOk M) (t : Wv) (x : Nat) : MOk (t.cstep M x) := by
  unfold Wv.cstep
  split
  · exact h.set x
  · exact h
def Wv.com (t : Wv) : Nat × Nat := (keysOf t.low t.f).foldl t.cstep (t.low, 0)
theorem MOk.fold {M : Nat × Nat} (h : MOk M) (t : Wv) (l : List Nat) : MOk (l.foldl t.cstep M) := by
  induction l generalizing M with
  | nil => exact h
  | cons x l ih =>
    rw [List.foldl_cons]
    exact ih (MOk.cstep h t x)
theorem low_ok (low : Nat) (h : low ≤ 4611686018427387584) : MOk (low, 0) := by
  have e : top low 0 = low := by unfold top; rw [(bl_bits 0 (by decide)).2.2 rfl]; rfl
  unfold MOk Gd
  dsimp only
  rw [e]
  exact ⟨⟨by omega, Nat.zero_testBit 0, by omega⟩, by decide⟩
theorem fold_take {α β : Type} (f : β → α → β) (b : β) (l : List α) {i : Nat} {x : α} (h : l[i]? = some x) : (l.take (i + 1)).foldl f b = f ((l.take i).foldl f b) x := by
  obtain ⟨hl, hx⟩ := List.getElem?_eq_some_iff.1 h
  rw [List.take_succ_eq_append_getElem hl, List.foldl_append, hx]
  rfl
/-- Set, whether there is room or not. -/
theorem setR_any (M : Nat × Nat) (x : Nat) (w : World) (h : MOk M) (hx : x < 18446744073709551616) (hT : Tab w) : ∃ er : Int,
    Calls Tryd.prog 31 #[.agg #[.int .u64 (M.1 : Int), .int .u64 (M.2 : Int)], .int .u64 (x : Int)] w fun e w' => e = .returned (.tuple #[.agg #[.int .u64 ((msetR M x).1 : Int), .int .u64 ((msetR M x).2 : Int)], .int .i64 er]) ∧ Below w.heap.size w w' := by
  unfold msetR
  by_cases hr : Room M.1 x
  · rw [if_pos hr]
    exact ⟨0, set_ok M.1 M.2 x w h.1.1 h.2 hT hr⟩
  · rw [if_neg hr]
    exact ⟨30, set_no M.1 M.2 x w h.1.1 hx hr⟩
theorem com_nil (w : World) : Calls Tryd.prog 15 #[.pointer none] w fun e w' => e = .returned (.agg #[.int .u64 0, .int .u64 0]) ∧ Below w.heap.size w w' := by
  go_enter Tryd.func15, Tryd.ntmps15
  go_wp2
  exact bodyPost_ret (v := .agg #[.int .u64 0, .int .u64 0]) (by simp [results, Tryd.results15, go_sem]) rfl ⟨rfl, (Below.refl _ _).alloc (Nat.le_refl _) _⟩
theorem maj_same (a b : Nat) (w : World) (ha : a < 18446744073709551616) (hb : b < 18446744073709551616) :
    Calls Tryd.prog 30 #[.int .u64 (a : Int), .int .u64 (b : Int)] w fun e w' => e = .returned (.bool (Qu.majB a b)) ∧ w' = w :=
  (Qu.maj_any a b w ha hb).mono fun _ _ h => And.intro h.1 h.2.symm
/-- What tells marks. -/
def TellsM (w : World) (M : Nat × Nat) (e : Ending) (w' : World) : Prop := e = .returned (.agg #[.int .u64 (M.1 : Int), .int .u64 (M.2 : Int)]) ∧ Below w.heap.size w w'
set_option maxHeartbeats 4000000 in
theorem com_any {w : World} {g b m : Nat} {t : Wv} (h : Wn w g b m t) (hm : m ≤ 1000000) (hT : Tab w) :
    Calls Tryd.prog 15 #[.pointer (some ⟨g, 0, none⟩)] w (TellsM w t.com) := by
  have HH := Lib.hid h
  have HM := Lib.hid hm
  have HTT := Lib.hid hT
  clear h hm hT
  go_enter Tryd.func15, Tryd.ntmps15
  have e1 := fun o => cell_old o HH.out.c1
  have e2 := fun o o' => cell_old o' (cell_old o HH.out.c2)
  go_wp2_with (first
    | (go_at_call 29; refine (keysf_any _ _).mono ?_; rintro e w1 ⟨rfl, hw1⟩)
    | fail)
  obtain ⟨W, hW, hWs, r0, r1, r2, hwW⟩ := boxes3 w #[.int .u64 0, .int .u64 0] #[.int .u64 (t.low : Int), .int .u64 0] #[.map (some b)] 39 39 50
  have hW3 := HH.out.below hwW
  have cB : W.cell? ⟨w.heap.size + 1 + 1, 0, none⟩ = some (.map (some b)) := cell_of_row W _ 0 _ _ _ r2
  have HS := Lib.hid (sorted_any (w.heap.size + 1 + 1) b m t.low t.f hW3.ok.keys HM.out W (by rw [hWs]; omega) cB hW3.map)
  have HWS := Lib.hid hWs
  have HR := Lib.hid (And.intro r0 r1)
  have HWW := Lib.hid hwW
  rw [← hW]
  clear hW hWs r0 r1 r2 hwW hW3 cB e1 e2
  refine HS.out.mono ?_
  clear HS
  rintro e W2 ⟨A, c, rfl, hrd, hA, hb2⟩
  have HL := Lib.hid (fun i (hi : i < (keysOf t.low t.f).length) => hrd.at_ hi)
  have HAB := Lib.hid hA
  have hr0 := row_below HR.out.1 hb2
  have hr1 := row_below HR.out.2 hb2
  have hwW2 := HWW.out.trans (hb2.mono HWW.out.size)
  have HW2 := Lib.hid hwW2
  have HR2 := Lib.hid (And.intro hr0 hr1)
  have hsz2 : w.heap.size + 1 < W2.heap.size := (Array.getElem?_eq_some_iff.1 hr1).1
  have HSZ := Lib.hid hsz2
  have hlen := keysOf_len t.low t.f
  have HLEN := Lib.hid hlen
  have HBB := Lib.hid (show ∀ b o, A = some ⟨b, o, none⟩ → w.heap.size + 3 ≤ b from fun b o e => by have := hA b o e; have := HWS.out; omega)
  have hmem : ∀ x ∈ keysOf t.low t.f, x ≤ t.low + 192 := fun x hx => by have := List.mem_range'_1.1 (List.mem_filter.1 hx).1; omega
  obtain ⟨L, hL⟩ : ∃ L, keysOf t.low t.f = L := ⟨_, rfl⟩
  have hcom : t.com = L.foldl t.cstep (t.low, 0) := by unfold Wv.com; rw [hL]
  rw [hL] at HL HLEN hlen hmem ⊢
  have HMEM := Lib.hid hmem
  have HC := Lib.hid hcom
  clear hrd hA hr0 hr1 hwW2 hb2 hsz2 hcom hL hmem
  have hn192 : (L.length : Int) ≤ 192 := by omega
  clear hlen
  go_wp2_with (fail)
  go_loopw [21] (fun ir wr => ∃ i : Nat, i ≤ L.length ∧ ir = .int .i64 (i : Int) ∧ Hid (wr.heap[w.heap.size + 1]? = some (.cells #[.int .u64 (((L.take i).foldl t.cstep (t.low, 0)).1 : Int), .int .u64 (((L.take i).foldl t.cstep (t.low, 0)).2 : Int)] 39 (0, 0))) ∧ Hid (Keeps (fun j => j = w.heap.size + 1) W2 wr)) (fun ir _ => L.length - (intOf ir).toNat)
  case atStart => exact ⟨0, Nat.zero_le _, rfl, Lib.hid HR2.out.2, Lib.hid (Keeps.refl _ _)⟩
  case round =>
    obtain ⟨i, hi, rfl, HRW, HK⟩ := hrel
    by_cases hlt : i < L.length
    · obtain ⟨p1, o1, v1, rfl, hp1, hv1, hc1⟩ := HL.out i hlt
      obtain ⟨x, hx, rfl⟩ := u64s_get L i v1 hv1
      have hp3 : w.heap.size + 3 ≤ p1 := HBB.out p1 o1 rfl
      have hcx : wr.cell? ⟨p1, o1 + i, none⟩ = some (.int .u64 (x : Int)) := (World.cell?_of_block (a := ⟨p1, o1 + i, none⟩) (HK.out.block p1 hp1 (by omega))).trans hc1
      have hk : Below w.heap.size w wr := HW2.out.trans (HK.out.below (by have := HSZ.out; omega) (fun j hj => by omega))
      have hWr := HH.out.below hk
      have hx64 : x < 18446744073709551616 := by
        have := HMEM.out x (List.mem_of_getElem? hx)
        have := HH.out.ok.lo
        omega
      have hlk := fun z => (hWr.drewN z).look x hx64
      have hfold := fold_take t.cstep (t.low, 0) L hx
      have hMok := (low_ok t.low HH.out.ok.lo).fold t (L.take i)
      obtain ⟨M, hM⟩ : ∃ M, (L.take i).foldl t.cstep (t.low, 0) = M := ⟨_, rfl⟩
      rw [hM] at hfold hMok HRW
      have hw64 := hWr.ok.who_lt x
      have ha64 := hWr.ok.all_lt
      have hMj := fun W => maj_same (t.who x) t.all W hw64 ha64
      have d0 := hWr.c0
      have d2 := hWr.c2
      have n0 : wr.cell? ⟨w.heap.size + 1, 0, none⟩ = some (.int .u64 (M.1 : Int)) := cell_of_row wr _ 0 _ _ _ HRW.out
      have n1 : wr.cell? ⟨w.heap.size + 1, 1, none⟩ = some (.int .u64 (M.2 : Int)) := cell_of_row wr _ 1 _ _ _ HRW.out
      have hi2 : (i : Int) ≤ 192 := by omega
      have HLT := Lib.hid hlt
      have HF := Lib.hid hfold
      have HMO := Lib.hid hMok
      have HWR := Lib.hid (And.intro hWr hk)
      have HX := Lib.hid hx64
      have hcs : t.cstep M x = if Qu.majB (t.who x) t.all = true then msetR M x else M := rfl
      generalize t.who x = y at *
      clear hv1 hc1 hx hfold hMok hk hWr hx64 hM hw64 ha64
      cases hb : Qu.majB y t.all with
      | false =>
        rw [hb] at hMj
        rw [hb, if_neg (by decide)] at hcs
        have HCS := Lib.hid hcs
        clear hcs
        go_wp2_with (fail)
        go_quiet ((go_at_call 30; exact Calls.quiet_of_same (hMj _)))
        go_wp2
        go_roundw
        case rel => exact ⟨i + 1, by have := HLT.out; omega, by go_num, by rw [HF.out, HCS.out]; exact HRW, Lib.hid (HK.out.drewN _)⟩
        case measure => have := HLT.out; simp [intOf]; omega
      | true =>
        rw [hb] at hMj
        rw [hb, if_pos rfl] at hcs
        have HCS := Lib.hid hcs
        clear hcs
        go_wp2_with (fail)
        go_quiet ((go_at_call 30; exact Calls.quiet_of_same (hMj _)))
        obtain ⟨er, hset⟩ := setR_any M x (wr.drewN nq) HMO.out HX.out (HTT.out.below ⟨HWR.out.2.os, HWR.out.2.tape, HWR.out.2.output, HWR.out.2.size, HWR.out.2.block⟩)
        have HSET := Lib.hid hset
        have HR0 : Hid ((wr.drewN nq).heap[w.heap.size + 1]? = _) := Lib.hid HRW.out
        have HK0 := Lib.hid (HK.out.drewN nq)
        clear hset hMj
        go_wp2_with (first
          | (go_at_call 31; refine HSET.out.mono ?_; rintro e w3 ⟨rfl, hb3⟩
             have hr3 := row_below HR0.out hb3
             have k0 : w3.cell? ⟨w.heap.size + 1, 0, none⟩ = some (.int .u64 (M.1 : Int)) := cell_of_row w3 _ 0 _ _ _ hr3
             have k1 : w3.cell? ⟨w.heap.size + 1, 1, none⟩ = some (.int .u64 (M.2 : Int)) := cell_of_row w3 _ 1 _ _ _ hr3
             have z0 := frozen_of_row w3 _ 0 _ _ hr3
             have z1 := frozen_of_row w3 _ 1 _ _ hr3
             have HR3 := Lib.hid hr3
             have HK3 := Lib.hid (HK0.out.trans (Keeps.of_below (F := fun _ => False) hb3) (fun _ h => h.elim))
             clear hr3 hb3)
          | fail)
        go_roundw
        case rel =>
          refine ⟨i + 1, by have := HLT.out; omega, by go_num, Lib.hid ?_, Lib.hid ?_⟩
          · rw [HF.out, HCS.out]
            have := heap_setCell_same _ _ 0 _ _ (.int .u64 ((msetR M x).1 : Int)) HR3.out
            have := heap_setCell_same _ _ 1 _ _ (.int .u64 ((msetR M x).2 : Int)) this
            rw [this]
            rfl
          · exact (HK3.out.trans (Keeps.set w3 _ 0 _) (fun i hi => .inl hi)).trans (Keeps.set _ _ 1 _) (fun i hi => .inl hi)
        case measure => have := HLT.out; simp [intOf]; omega
    · obtain rfl : i = L.length := by omega
      have hr := HRW.out
      rw [List.take_length, ← HC.out] at hr
      have c0 : wr.cell? ⟨w.heap.size + 1, 0, none⟩ = some (.int .u64 (t.com.1 : Int)) := cell_of_row wr _ 0 _ _ _ hr
      have c1 : wr.cell? ⟨w.heap.size + 1, 1, none⟩ = some (.int .u64 (t.com.2 : Int)) := cell_of_row wr _ 1 _ _ _ hr
      have hr0 := HK.out.row HR2.out.1 (by omega)
      have q0 : wr.cell? ⟨w.heap.size, 0, none⟩ = some (.int .u64 0) := cell_of_row wr _ 0 _ _ _ hr0
      have q1 : wr.cell? ⟨w.heap.size, 1, none⟩ = some (.int .u64 0) := cell_of_row wr _ 1 _ _ _ hr0
      have y0 := frozen_of_row wr _ 0 _ _ hr0
      have y1 := frozen_of_row wr _ 1 _ _ hr0
      clear hr hr0
      go_wp2
      refine bodyPost_ret (v := .agg #[.int .u64 (t.com.1 : Int), .int .u64 (t.com.2 : Int)]) (by simp [results, Tryd.results15, go_sem, q0, q1]) rfl ⟨rfl, ?_⟩
      have hk : Below w.heap.size w wr := HW2.out.trans (HK.out.below (by have := HSZ.out; omega) (fun j hj => by omega))
      exact (hk.setCell (Nat.le_refl _) _).setCell (Nat.le_refl _) _
end Go.Proofs.YtjhakplaffgkpaaDoor

namespace Go.Proofs.YtjhakplaffgkpaaDoor
open Go.RowKit

def stepS (S : Nat → Bool) (M : Nat × Nat) (x : Nat) : Nat × Nat := if S x = true then msetR M x else M
def comS (S : Nat → Bool) (low k : Nat) : Nat × Nat := (List.range' (low + 1) k).foldl (stepS S) (low, 0)
theorem comS_succ (S : Nat → Bool) (low k : Nat) : comS S low (k + 1) = stepS S (comS S low k) (low + 1 + k) := by
  unfold comS
  rw [List.range'_concat, List.foldl_append, Nat.one_mul]
  rfl
theorem MOk.stepS {M : Nat × Nat} (h : MOk M) (S : Nat → Bool) (x : Nat) : MOk (stepS S M x) := by
  unfold Go.Proofs.YtjhakplaffgkpaaDoor.stepS
  split
  · exact h.set x
  · exact h
theorem comS_ok (S : Nat → Bool) (low k : Nat) (h : low ≤ 4611686018427387584) : MOk (comS S low k) := by
  induction k with
  | zero => exact low_ok low h
  | succ k ih => rw [comS_succ]; exact ih.stepS S _
theorem fold_filter {α β : Type} (f : β → α → β) (p : α → Bool) (l : List α) (b : β) (h : ∀ x, p x = false → ∀ c, f c x = c) : (l.filter p).foldl f b = l.foldl f b := by
  induction l generalizing b with
  | nil => rfl
  | cons x l ih =>
    cases hp : p x with
    | true => rw [List.filter_cons_of_pos hp, List.foldl_cons, List.foldl_cons, ih]
    | false => rw [List.filter_cons_of_neg (by simp [hp]), List.foldl_cons, ih, h x hp]
theorem maj_zero (o : Nat) : Qu.majB 0 o = false := by
  unfold Qu.majB
  rw [Nat.zero_and]
  have : Qu.pop 64 0 = 0 := by decide
  simp [this]
theorem Wv.com_eq (t : Wv) : t.com = comS (fun x => Qu.majB (t.who x) t.all) t.low 192 := by
  unfold Wv.com keysOf comS
  rw [fold_filter]
  · rfl
  · intro x hx c
    have : t.who x = 0 := by
      unfold Wv.who
      cases hf : t.f x with
      | none => rfl
      | some s => rw [hf] at hx; cases hx
    unfold Wv.cstep
    rw [this, maj_zero]
    rfl
theorem lows {M M' : Nat × Nat} (h' : MOk M') (h : ∀ x, Hs M.1 M.2 x = true → Hs M'.1 M'.2 x = true) : M.1 ≤ M'.1 := by
  rcases Nat.lt_or_ge M'.1 M.1 with hlt | hge
  · exfalso
    have h1 := h (M'.1 + 1) (hs_low (by omega))
    rw [hs_high (by omega), show M'.1 + 1 - M'.1 - 1 = 0 by omega, h'.1.2.1] at h1
    cases h1
  · exact hge
theorem msetR_hs {M : Nat × Nat} (h : MOk M) (x y : Nat) : Hs (msetR M x).1 (msetR M x).2 y = (Hs M.1 M.2 y || (decide (y = x) && decide (Room M.1 x))) := by
  unfold msetR
  by_cases hr : Room M.1 x
  · rw [if_pos hr, mset_hs M.1 M.2 x y h.2 hr]
    simp [hr]
  · rw [if_neg hr]
    simp [hr]
theorem comS_mono (S S' : Nat → Bool) (low : Nat) (hl : low ≤ 4611686018427387584) (hS : ∀ x, S x = true → S' x = true) (k : Nat) : ∀ x, Hs (comS S low k).1 (comS S low k).2 x = true → Hs (comS S' low k).1 (comS S' low k).2 x = true := by
  induction k with
  | zero => exact fun x h => h
  | succ k ih =>
    have ok := comS_ok S low k hl
    have ok' := comS_ok S' low k hl
    have hlow := lows ok' ih
    intro x hx
    rw [comS_succ] at hx ⊢
    generalize comS S low k = M at *
    generalize comS S' low k = M' at *
    unfold stepS at hx ⊢
    cases hs : S (low + 1 + k) with
    | false =>
      rw [hs, if_neg (by decide)] at hx
      split
      · rw [msetR_hs ok', ih x hx]; rfl
      · exact ih x hx
    | true =>
      rw [hs, if_pos rfl, msetR_hs ok, Bool.or_eq_true] at hx
      rw [hS _ hs, if_pos rfl, msetR_hs ok']
      rcases hx with hx | hx
      · rw [ih x hx]; rfl
      · simp only [Bool.and_eq_true, decide_eq_true_eq] at hx
        obtain ⟨h1, h2⟩ := hx
        have : Room M'.1 (low + 1 + k) := ⟨h2.1, by have := h2.2; omega⟩
        simp [h1, this]
theorem maj_mono {a b o : Nat} (h : ∀ i, i < 64 → a.testBit i = true → b.testBit i = true) (hm : Qu.majB a o = true) : Qu.majB b o = true := by
  unfold Qu.majB at hm ⊢
  rw [Qu.pop_and] at hm ⊢
  simp only [decide_eq_true_eq] at hm ⊢
  have := List.countP_mono_left (l := Qu.memb o) (p := a.testBit) (q := b.testBit) (fun i hi ha => h i (Qu.memb_lt hi) ha)
  omega

theorem Wv.ack_low (t : Wv) (node : Int) (x : Nat) : (t.ack node x).low = t.low ∧ (t.ack node x).n = t.n := by
  unfold Wv.ack Wv.put
  split <;> exact ⟨rfl, rfl⟩
theorem Wv.ack_all (t : Wv) (node : Int) (x : Nat) : (t.ack node x).all = t.all := by unfold Wv.all; rw [(t.ack_low node x).2]
theorem Wv.ack_err (t : Wv) (node : Int) (x : Nat) (m : Int) (y : Nat) : (t.ack node x).err m y = t.err m y := by
  unfold Wv.err
  rw [t.ack_all, (t.ack_low node x).1]
/-- Who has what behind an Ack. -/
theorem Wv.ack_bit (t : Wv) (node : Int) (x y i : Nat) (hi : i < 64) : ((t.ack node x).who y).testBit i = ((t.who y).testBit i || (decide (t.err node x = 0) && (decide (y = x) && decide (node = (i : Int))))) := by
  unfold Wv.ack
  by_cases he : t.err node x = 0
  · rw [if_pos he]
    unfold Wv.put Wv.who
    dsimp only
    by_cases hy : y = x
    · subst hy
      rw [if_pos rfl, Option.getD_some, Qu.with1_bit _ _ _ hi]
      simp [he]
    · rw [if_neg hy]
      simp [hy]
  · rw [if_neg he]
    simp [he]
theorem Wv.ack_stays (t : Wv) (h : t.Ok) (node : Int) (x : Nat) : (∀ y, Hs t.com.1 t.com.2 y = true → Hs (t.ack node x).com.1 (t.ack node x).com.2 y = true) ∧ t.com.1 ≤ (t.ack node x).com.1 ∧ MOk (t.ack node x).com := by
  have hl := h.lo
  have key : ∀ y, Hs t.com.1 t.com.2 y = true → Hs (t.ack node x).com.1 (t.ack node x).com.2 y = true := by
    rw [t.com_eq, (t.ack node x).com_eq, (t.ack_low node x).1, t.ack_all]
    refine comS_mono _ _ t.low hl (fun y hy => ?_) 192
    refine maj_mono (fun i hi hb => ?_) hy
    rw [t.ack_bit node x y i hi, hb]
    rfl
  have hok : MOk (t.ack node x).com := by rw [(t.ack node x).com_eq, (t.ack_low node x).1]; exact comS_ok _ _ _ hl
  exact ⟨key, lows hok key, hok⟩
theorem Wv.com_ok (t : Wv) (h : t.Ok) : MOk t.com := by rw [t.com_eq]; exact comS_ok _ _ _ h.lo

/-- Many Acks. -/
def ackAll (t : Wv) (l : List (Int × Nat)) : Wv := l.foldl (fun t a => t.ack a.1 a.2) t
theorem ackAll_snoc (t : Wv) (l : List (Int × Nat)) (a : Int × Nat) : ackAll t (l ++ [a]) = (ackAll t l).ack a.1 a.2 := by unfold ackAll; rw [List.foldl_append]; rfl
theorem ackAll_low (t : Wv) (l : List (Int × Nat)) : (ackAll t l).low = t.low ∧ (ackAll t l).n = t.n := by
  induction l generalizing t with
  | nil => exact ⟨rfl, rfl⟩
  | cons a l ih =>
    have := ih (t.ack a.1 a.2)
    rw [(t.ack_low a.1 a.2).1, (t.ack_low a.1 a.2).2] at this
    exact this
theorem ackAll_bit (t : Wv) (l : List (Int × Nat)) (y i : Nat) (hi : i < 64) : ((ackAll t l).who y).testBit i = ((t.who y).testBit i || l.any fun a => decide (t.err a.1 a.2 = 0) && (decide (y = a.2) && decide (a.1 = (i : Int)))) := by
  induction l generalizing t with
  | nil => simp [ackAll]
  | cons a l ih =>
    show ((ackAll (t.ack a.1 a.2) l).who y).testBit i = _
    rw [ih, t.ack_bit a.1 a.2 y i hi, List.any_cons, Bool.or_assoc]
    congr 2
    refine congrArg (fun p => l.any p) (funext fun b => ?_)
    rw [t.ack_err]
theorem ackAll_ok {t : Wv} (h : t.Ok) (l : List (Int × Nat)) : (ackAll t l).Ok := by
  induction l generalizing t with
  | nil => exact h
  | cons a l ih => exact ih (h.ack a.1 a.2)
theorem nat_bits {a b : Nat} (ha : a < 18446744073709551616) (hb : b < 18446744073709551616) (h : ∀ i, i < 64 → a.testBit i = b.testBit i) : a = b := by
  refine Nat.eq_of_testBit_eq fun i => ?_
  rcases Nat.lt_or_ge i 64 with h1 | h1
  · exact h i h1
  · rw [high_bit a i ha h1, high_bit b i hb h1]
theorem ackAll_rev {t : Wv} (h : t.Ok) (l : List (Int × Nat)) : (ackAll t l.reverse).com = (ackAll t l).com := by
  have ok1 := ackAll_ok h l
  have ok2 := ackAll_ok h l.reverse
  rw [(ackAll t l).com_eq, (ackAll t l.reverse).com_eq]
  unfold Wv.all
  rw [(ackAll_low t l).1, (ackAll_low t l).2, (ackAll_low t l.reverse).1, (ackAll_low t l.reverse).2]
  have hw : ∀ x, (ackAll t l.reverse).who x = (ackAll t l).who x := fun x => by
    refine nat_bits (ok2.who_lt x) (ok1.who_lt x) fun i hi => ?_
    rw [ackAll_bit t l x i hi, ackAll_bit t l.reverse x i hi, List.any_reverse]
  rw [show (fun x => Qu.majB ((ackAll t l.reverse).who x) (2 ^ t.n - 1)) = (fun x => Qu.majB ((ackAll t l).who x) (2 ^ t.n - 1)) from funext fun x => by rw [hw x]]
theorem gd_of {L B : Nat} (h : Gd L B) : gdB L B = true := by
  unfold gdB
  simp [h.1, h.2.1, h.2.2]
theorem row_ne {w : World} {g p : Nat} {cs cs' : Array Value} {e e' : TypeId} {f f' : Nat × Nat} (h : w.heap[g]? = some (.cells cs e f)) (h' : w.heap[p]? = some (.cells cs' e' f')) (hne : e ≠ e') : g ≠ p := by
  intro q
  subst q
  rw [h] at h'
  cases h'
  exact hne rfl
end Go.Proofs.YtjhakplaffgkpaaDoor

namespace Go.Proofs.YtjhakplaffgkpaaDoor
open Go.RowKit
set_option maxRecDepth 20000

/-- Who was told to have what, as cells. -/
def rcells (L : List (Int × Nat)) : List Value := L.flatMap fun a => [.int .i64 a.1, .int .u64 (a.2 : Int)]
theorem rcells_len (L : List (Int × Nat)) : (rcells L).length = L.length * 2 := by
  induction L with
  | nil => rfl
  | cons a L ih => show (_ :: _ :: rcells L).length = _; rw [List.length_cons, List.length_cons, ih, List.length_cons]; omega
theorem rcells_app (L K : List (Int × Nat)) : rcells (L ++ K) = rcells L ++ rcells K := List.flatMap_append
theorem rcells_get (L : List (Int × Nat)) (i : Nat) (a : Int × Nat) (h : L[i]? = some a) : (rcells L)[i * 2]? = some (.int .i64 a.1) ∧ (rcells L)[i * 2 + 1]? = some (.int .u64 (a.2 : Int)) := by
  induction L generalizing i with
  | nil => simp at h
  | cons b L ih =>
    have e : rcells (b :: L) = .int .i64 b.1 :: .int .u64 (b.2 : Int) :: rcells L := rfl
    rw [e]
    cases i with
    | zero =>
      simp only [List.getElem?_cons_zero, Option.some.injEq] at h
      subst h
      exact ⟨rfl, rfl⟩
    | succ i =>
      rw [List.getElem?_cons_succ] at h
      have := ih i h
      rw [show (i + 1) * 2 = i * 2 + 1 + 1 by omega]
      exact this
def hasL (L : List (Int × Nat)) (node : Int) (x : Nat) : Bool := L.any fun a => decide (a.1 = node) && decide (a.2 = x)
def whoTo (L : List (Int × Nat)) (x : Nat) : Nat → Nat
  | 0 => 0
  | k + 1 => if hasL L (k : Int) x = true then whoTo L x k + 2 ^ k else whoTo L x k
theorem whoTo_lt (L : List (Int × Nat)) (x k : Nat) : whoTo L x k < 2 ^ k := by
  induction k with
  | zero => exact Nat.lt_succ_self 0
  | succ k ih =>
    unfold whoTo
    rw [Nat.pow_succ]
    split <;> omega
theorem whoTo_bit (L : List (Int × Nat)) (x k i : Nat) : (whoTo L x k).testBit i = (decide (i < k) && hasL L (i : Int) x) := by
  induction k with
  | zero => simp [whoTo]
  | succ k ih =>
    have hl := whoTo_lt L x k
    unfold whoTo
    by_cases hi : i < k
    · have : decide (i < k + 1) = true := by simp; omega
      rw [this]
      split
      · rw [Nat.add_comm, Nat.testBit_two_pow_add_gt hi, ih]
        simp [hi]
      · rw [ih]; simp [hi]
    · by_cases he : i = k
      · subst he
        cases hb : hasL L (i : Int) x with
        | true =>
          rw [if_pos rfl, Nat.add_comm, Nat.testBit_two_pow_add_eq, Nat.testBit_lt_two_pow hl]
          simp
        | false =>
          rw [if_neg (by decide), Nat.testBit_lt_two_pow hl]
          simp
      · have h1 : decide (i < k + 1) = false := by simp; omega
        rw [h1, Bool.false_and]
        have hlt : (if hasL L (k : Int) x = true then whoTo L x k + 2 ^ k else whoTo L x k) < 2 ^ (k + 1) := by
          rw [Nat.pow_succ]
          split <;> omega
        exact Nat.testBit_lt_two_pow (Nat.lt_of_lt_of_le hlt (Nat.pow_le_pow_right (by decide) (by omega)))
/-- The reference's window in memory: its row r, its list v. -/
structure Rw (w : World) (B r : Nat) (v : Value) (n low : Nat) (L : List (Int × Nat)) : Prop where
  row : w.heap[r]? = some (.cells #[.int .i64 (n : Int), .int .u64 (low : Int), v] 56 (0, 0))
  own : w.ownsRow B 31 2 v L.length (rcells L)
  lo : B ≤ r
section
variable {w w' : World} {B r n low : Nat} {v : Value} {L : List (Int × Nat)}
theorem Rw.lt (h : Rw w B r v n low L) : r < w.heap.size := (Array.getElem?_eq_some_iff.1 h.row).1
theorem Rw.c0 (h : Rw w B r v n low L) : w.cell? ⟨r, 0, none⟩ = some (.int .i64 (n : Int)) := cell_of_row w r 0 _ _ _ h.row
theorem Rw.c1 (h : Rw w B r v n low L) : w.cell? ⟨r, 1, none⟩ = some (.int .u64 (low : Int)) := cell_of_row w r 1 _ _ _ h.row
theorem Rw.c2 (h : Rw w B r v n low L) : w.cell? ⟨r, 2, none⟩ = some v := cell_of_row w r 2 _ _ _ h.row
theorem Rw.keeps {F : Nat → Prop} (h : Rw w B r v n low L) (k : Keeps F w w') (h1 : ¬ F r) (h2 : ∀ q, v.ownBlock = some q → ¬ F q) : Rw w' B r v n low L := ⟨k.row h.row h1, k.own h.own h2, h.lo⟩
theorem Rw.below (h : Rw w B r v n low L) (hb : Below w.heap.size w w') : Rw w' B r v n low L := h.keeps (F := fun _ => False) (Keeps.of_below hb) (fun h => h) (fun _ _ h => h)
theorem Rw.form (h : Rw w B r v n low L) : ∃ A c, v = .slice A L.length c := ownsRow_form h.own
theorem hasL_snoc (L : List (Int × Nat)) (a : Int × Nat) (node : Int) (x : Nat) : hasL (L ++ [a]) node x = (hasL L node x || (decide (a.1 = node) && decide (a.2 = x))) := by
  unfold hasL; rw [List.any_append, List.any_cons, List.any_nil, Bool.or_false]
theorem hasL_take {i : Nat} {a : Int × Nat} (h : L[i]? = some a) (node : Int) (x : Nat) : hasL (L.take (i + 1)) node x = (hasL (L.take i) node x || (decide (a.1 = node) && decide (a.2 = x))) := by
  obtain ⟨hl, hx⟩ := List.getElem?_eq_some_iff.1 h
  rw [List.take_succ_eq_append_getElem hl, hasL_snoc, hx]
theorem hasL_yes {i : Nat} {a : Int × Nat} (h : L[i]? = some a) : hasL L a.1 a.2 = true := by
  unfold hasL
  rw [List.any_eq_true]
  exact ⟨a, List.mem_of_getElem? h, by simp⟩

theorem rnew_none (n : Int) (low : Nat) (w : World) (h : n < 1 ∨ 7 < n ∨ 4611686018427387584 < low) : Calls Tryd.prog 9 #[.int .i64 n, .int .u64 (low : Int)] w fun e w' => e = .returned (.tuple #[.pointer none, .bool false]) ∧ w = w' := by
  by_cases h1 : n < 1
  · have q1 : decide (n < 1) = true := by simpa using h1
    clear h
    go_enter Tryd.func9, Tryd.ntmps9
    go_wp2
    go_ret2
    exact ⟨rfl, rfl⟩
  · have q1 : decide (n < 1) = false := by simpa using h1
    by_cases h2 : 7 < n
    · have q2 : decide (7 < n) = true := by simpa using h2
      clear h
      go_enter Tryd.func9, Tryd.ntmps9
      go_wp2
      go_ret2
      exact ⟨rfl, rfl⟩
    · have q2 : decide (7 < n) = false := by simpa using h2
      have h3 : 4611686018427387584 < low := by omega
      have q3 : decide ((4611686018427387584 : Int) < (low : Int)) = true := by simp; omega
      clear h h3
      go_enter Tryd.func9, Tryd.ntmps9
      go_wp2
      go_ret2
      exact ⟨rfl, rfl⟩
def RNew (w : World) (n low : Nat) (e : Ending) (w' : World) : Prop := e = .returned (.tuple #[.pointer (some ⟨w.heap.size, 0, none⟩), .bool true]) ∧ Rw w' w.heap.size w.heap.size (.slice none 0 0) n low [] ∧ Below w.heap.size w w'
theorem rnew_any (n low : Nat) (w : World) (h1 : 1 ≤ n) (h7 : n ≤ 7) (hl : low ≤ 4611686018427387584) : Calls Tryd.prog 9 #[.int .i64 (n : Int), .int .u64 (low : Int)] w (RNew w n low) := by
  have q1 : decide ((n : Int) < 1) = false := by simp; omega
  have q2 : decide (7 < (n : Int)) = false := by simp; omega
  have q3 : decide ((4611686018427387584 : Int) < (low : Int)) = false := by simp; omega
  have q1' : decide (n < 1) = false := by simp; omega
  have q2' : decide (7 < n) = false := by simp; omega
  have q3' : decide (4611686018427387584 < low) = false := by simp; omega
  have q4 : ¬ n < 1 := by omega
  have q5 : ¬ 7 < n := by omega
  have q6 : ¬ 4611686018427387584 < low := by omega
  clear h1 h7 hl
  unfold RNew
  go_enter Tryd.func9, Tryd.ntmps9
  go_wp2
  go_ret2
  exact ⟨rfl, ⟨heap_alloc_new w _, World.ownsRow_nil _ _ _ _, Nat.le_refl _⟩, (Below.refl _ _).alloc (Nat.le_refl _) _⟩
set_option maxHeartbeats 2000000 in
theorem rhas_w (h : Rw w B r v n low L) (hL : L.length ≤ 1000) (node : Int) (x : Nat) :
    Calls Tryd.prog 27 #[.pointer (some ⟨r, 0, none⟩), .int .i64 node, .int .u64 (x : Int)] w fun e w' => e = .returned (.bool (hasL L node x)) ∧ w = w' := by
  have c2 := h.c2
  obtain ⟨A, c, rfl⟩ := h.form
  have hrd := ownsRow_rd h.own
  have HRD := Lib.hid hrd
  have HL := Lib.hid hL
  clear h hrd hL
  go_enter Tryd.func27, Tryd.ntmps27
  go_wp2_with (fail)
  go_loop [7] (fun ir => ∃ i : Nat, i ≤ L.length ∧ ir = .int .i64 (i : Int) ∧ hasL (L.take i) node x = false) (fun ir => L.length - (intOf ir).toNat)
  case atStart => exact ⟨0, Nat.zero_le _, rfl, rfl⟩
  case round =>
    obtain ⟨i, hi, rfl, hno⟩ := hrel
    by_cases hlt : i < L.length
    · obtain ⟨a, ha⟩ : ∃ a, L[i]? = some a := ⟨_, List.getElem?_eq_getElem hlt⟩
      obtain ⟨g1, g2⟩ := rcells_get L i a ha
      obtain ⟨b, o, rfl, hbl, hc⟩ := HRD.out.2.2.2 (by omega)
      have k0 : w.cell? ⟨b, o + i * 2, none⟩ = some (.int .i64 a.1) := hc _ _ g1
      have k1 : w.cell? ⟨b, o + i * 2 + 1, none⟩ = some (.int .u64 (a.2 : Int)) := by rw [Nat.add_assoc]; exact hc _ _ g2
      have ht := hasL_take ha node x
      have hy := hasL_yes ha
      rw [hno, Bool.false_or] at ht
      obtain ⟨a1, a2⟩ := a
      have hl3 : (L.length : Int) ≤ 1000 := by have := HL.out; omega
      have HLT := Lib.hid hlt
      by_cases e1 : a1 = node
      · have d1 : (a1 == node) = true := by simpa using e1
        by_cases e2 : a2 = x
        · have d2 : ((a2 : Int) == (x : Int)) = true := by simp; omega
          have d2' : (a2 == x) = true := by simpa using e2
          have HY := Lib.hid (show hasL L node x = true by rw [← e1, ← e2]; exact hy)
          clear e1 e2 ht hy hno ha g1 g2 hc
          go_wp2
          go_ret
          rw [HY.out]
          exact ⟨rfl, rfl⟩
        · have d2 : ((a2 : Int) == (x : Int)) = false := by simp; omega
          have d2' : (a2 == x) = false := by simpa using e2
          have HN := Lib.hid (show hasL (L.take (i + 1)) node x = false by rw [ht]; simp [e2])
          clear e1 e2 ht hy hno ha g1 g2 hc
          go_wp2
          go_round
          case rel => exact ⟨i + 1, by have := HLT.out; omega, by go_num, HN.out⟩
          case measure => have := HLT.out; simp [intOf]; omega
      · have d1 : (a1 == node) = false := by simpa using e1
        have HN := Lib.hid (show hasL (L.take (i + 1)) node x = false by rw [ht]; simp [e1])
        clear e1 ht hy hno ha g1 g2 hc
        go_wp2
        go_round
        case rel => exact ⟨i + 1, by have := HLT.out; omega, by go_num, HN.out⟩
        case measure => have := HLT.out; simp [intOf]; omega
    · obtain rfl : i = L.length := by omega
      rw [List.take_length] at hno
      have HN := Lib.hid hno
      have hl3 : (L.length : Int) ≤ 1000 := by have := HL.out; omega
      clear hno
      go_wp2
      go_ret
      rw [HN.out]
      exact ⟨rfl, rfl⟩

set_option maxHeartbeats 2000000 in
theorem rwho_any (h : Rw w B r v n low L) (hL : L.length ≤ 1000) (h7 : n ≤ 7) (x : Nat) :
    Calls Tryd.prog 14 #[.pointer (some ⟨r, 0, none⟩), .int .u64 (x : Int)] w fun e w' => e = .returned (.int .u64 ((whoTo L x n : Nat) : Int)) ∧ w = w' := by
  have c0 := h.c0
  have HH := Lib.hid (fun node => rhas_w h hL node x)
  have H7 := Lib.hid h7
  clear h hL h7
  go_enter Tryd.func14, Tryd.ntmps14
  go_wp2_with (fail)
  go_loop [5, 6, 7] (fun sr ur ir => ∃ k : Nat, k ≤ n ∧ ir = .int .i64 (k : Int) ∧ ur = .int .u64 ((2 ^ k : Nat) : Int) ∧ sr = .int .u64 ((whoTo L x k : Nat) : Int)) (fun _ _ ir => n - (intOf ir).toNat)
  case atStart => exact ⟨0, Nat.zero_le _, rfl, rfl, rfl⟩
  case round =>
    obtain ⟨k, hk, rfl, rfl, rfl⟩ := hrel
    by_cases hlt : k < n
    · have hw := whoTo_lt L x k
      have hp : 2 ^ k ≤ 64 := Nat.le_trans (Nat.pow_le_pow_right (n := 2) (by decide) (show k ≤ 6 by have := H7.out; omega)) (by decide)
      have hs : whoTo L x (k + 1) = if hasL L (k : Int) x = true then whoTo L x k + 2 ^ k else whoTo L x k := rfl
      have hp2 : 2 ^ (k + 1) = 2 * 2 ^ k := by rw [Nat.pow_succ, Nat.mul_comm]
      have HHk := HH.out (k : Int)
      have hk3 : (k : Int) ≤ 7 := by have := H7.out; omega
      have HLT := Lib.hid hlt
      have HS := Lib.hid hs
      have HP2 := Lib.hid hp2
      obtain ⟨p, hp'⟩ : ∃ p, 2 ^ k = p := ⟨_, rfl⟩
      obtain ⟨s, hs'⟩ : ∃ s, whoTo L x k = s := ⟨_, rfl⟩
      rw [hp'] at hw hp HP2 HS ⊢
      rw [hs'] at hw HS ⊢
      clear hs hp2 hp' hs' hlt
      have m1 : IntKind.u64.wrap (2 * (p : Int)) = ((2 * p : Nat) : Int) := by rw [u64w _ (by omega) (by omega)]; omega
      have m2 : IntKind.u64.wrap ((s : Int) + (p : Int)) = ((s + p : Nat) : Int) := by rw [u64w _ (by omega) (by omega)]; omega
      cases hb : hasL L (k : Int) x with
      | true =>
        rw [hb] at HHk
        rw [hb, if_pos rfl] at HS
        have HC := Lib.hid HHk
        clear HHk hb
        go_wp2_with (first
          | (go_at_call 27; refine HC.out.mono ?_; rintro e w3 ⟨rfl, rfl⟩)
          | fail)
        go_round
        case rel => exact ⟨k + 1, by have := HLT.out; omega, by go_num, by rw [HP2.out]; first | rfl | simp, by rw [HS.out]; first | rfl | simp⟩
        case measure => have := HLT.out; simp [intOf]; omega
      | false =>
        rw [hb] at HHk
        rw [hb, if_neg (by decide)] at HS
        have HC := Lib.hid HHk
        clear HHk hb
        go_wp2_with (first
          | (go_at_call 27; refine HC.out.mono ?_; rintro e w3 ⟨rfl, rfl⟩)
          | fail)
        go_round
        case rel => exact ⟨k + 1, by have := HLT.out; omega, by go_num, by rw [HP2.out]; first | rfl | simp, by rw [HS.out]⟩
        case measure => have := HLT.out; simp [intOf]; omega
    · obtain rfl : k = n := by omega
      go_wp2
      go_ret
      exact ⟨rfl, rfl⟩
theorem rall_any (h : Rw w B r v n low L) (h7 : n ≤ 7) :
    Calls Tryd.prog 33 #[.pointer (some ⟨r, 0, none⟩)] w fun e w' => e = .returned (.int .u64 ((2 ^ n - 1 : Nat) : Int)) ∧ w = w' := by
  have c0 := h.c0
  have H7 := Lib.hid h7
  clear h h7
  go_enter Tryd.func33, Tryd.ntmps33
  go_wp2_with (fail)
  go_loop [3, 4] (fun ur ir => ∃ k : Nat, k ≤ n ∧ ir = .int .i64 (k : Int) ∧ ur = .int .u64 ((2 ^ k : Nat) : Int)) (fun _ ir => n - (intOf ir).toNat)
  case atStart => exact ⟨0, Nat.zero_le _, rfl, rfl⟩
  case round =>
    obtain ⟨k, hk, rfl, rfl⟩ := hrel
    by_cases hlt : k < n
    · have hp : 2 ^ k ≤ 64 := Nat.le_trans (Nat.pow_le_pow_right (n := 2) (by decide) (show k ≤ 6 by have := H7.out; omega)) (by decide)
      have hp2 : 2 ^ (k + 1) = 2 * 2 ^ k := by rw [Nat.pow_succ, Nat.mul_comm]
      have hk3 : (k : Int) ≤ 7 := by have := H7.out; omega
      have HLT := Lib.hid hlt
      have HP2 := Lib.hid hp2
      obtain ⟨p, hp'⟩ : ∃ p, 2 ^ k = p := ⟨_, rfl⟩
      rw [hp'] at hp HP2 ⊢
      clear hp2 hp' hlt
      have m1 : IntKind.u64.wrap (2 * (p : Int)) = ((2 * p : Nat) : Int) := by rw [u64w _ (by omega) (by omega)]; omega
      go_wp2
      go_round
      case rel => exact ⟨k + 1, by have := HLT.out; omega, by go_num, by rw [HP2.out]; first | rfl | simp⟩
      case measure => have := HLT.out; simp [intOf]; omega
    · obtain rfl : k = n := by omega
      have hp := Nat.one_le_two_pow (n := k)
      have hp7 : 2 ^ k ≤ 128 := Nat.le_trans (Nat.pow_le_pow_right (n := 2) (by decide) H7.out) (by decide)
      obtain ⟨p, hp'⟩ : ∃ p, 2 ^ k = p := ⟨_, rfl⟩
      rw [hp'] at hp hp7 ⊢
      have m1 : IntKind.u64.wrap ((p : Int) - 1) = ((p - 1 : Nat) : Int) := by rw [u64w _ (by omega) (by omega)]; omega
      have HP := Lib.hid hp'
      clear hp' hp hp7
      go_wp2
      go_ret
      rw [HP.out]
      exact ⟨rfl, rfl⟩
end
end Go.Proofs.YtjhakplaffgkpaaDoor
