/- The reference's first, walked. The reference's next: the least index that may be done now. -/
import Derived.Test.YtgejmeankppmhaaDoorOrfstM
namespace Go.Proofs.YtgejmeankppmhaaDoor
open Go.RowKit
open Bh (En Ents ens ens_get ecell)
set_option maxRecDepth 20000

def fnd (es : List En) (x : Nat) : Option En := es.find? fun e => decide (e.ix = x)
theorem fnd_hit {es : List En} {i x : Nat} {p : En} (hp : es[i]? = some p) (hn : fnd (es.take i) x = none) (hx : p.ix = x) : fnd es x = some p := by
  have h1 : fnd (es.take (i + 1)) x = some p := by
    unfold fnd at hn ⊢
    rw [take_snoc hp, List.find?_append, hn]
    simp [hx]
  unfold fnd at h1 ⊢
  rw [← List.take_append_drop (i + 1) es, List.find?_append, h1]
  rfl
theorem fnd_miss {es : List En} {i x : Nat} {p : En} (hp : es[i]? = some p) (hn : fnd (es.take i) x = none) (hx : p.ix ≠ x) : fnd (es.take (i + 1)) x = none := by
  unfold fnd at hn ⊢
  rw [take_snoc hp, List.find?_append, hn]
  simp [hx]
set_option maxHeartbeats 4000000 in
theorem rfirst_any {w : World} {A : Option Addr} {n c : Nat} {es : List En} (h : Ents w A n c es) (x : Nat) (hx : x < 18446744073709551616) :
    Calls Tryd.prog 59 #[.slice A n c, .int .u64 (x : Int)] w fun e w' => e = .returned (.tuple #[.agg ((fnd es x).getD Ez).cells, .bool (fnd es x).isSome]) ∧ Below w.heap.size w w' := by
  have hcap := h.rd.2.1
  have hnc := h.rd.1
  have hnm : (n : Int) ≤ 9223372036854775807 := by unfold maxLen at hcap; omega
  have HH := Lib.hid h
  clear h hcap hnc
  go_enter Tryd.func59, Tryd.ntmps59
  go_wp2_with (first
    | (refine wpL_enew (o := ⟨some 4, _, _, _, _, _⟩) rfl rfl ?_; intro W p4 hN; obtain ⟨hb4, hr4, hl4, hz4⟩ := hN)
    | fail)
  have HB := Lib.hid hl4
  have hp4 : w.heap.size ≤ p4 := Nat.le_of_eq hb4.out.symm
  clear hb4 hl4 hz4
  go_loopw [6] (fun ir wr => ∃ (i : Nat), i ≤ n ∧ ir = .int .i64 (i : Int) ∧ Hid (fnd (es.take i) x = none) ∧ wr = W) (fun ir _ => n - (intOf ir).toNat)
  case atStart => exact ⟨0, Nat.zero_le _, rfl, Lib.hid rfl, rfl⟩
  case round =>
    obtain ⟨i, hi, rfl, HN, rfl⟩ := hrel
    by_cases hlt : i < n
    · obtain ⟨p0, hp⟩ : ∃ p0, es[i]? = some p0 := ⟨_, List.getElem?_eq_getElem (by have := HH.out.len; omega)⟩
      obtain ⟨b, o, rfl, hbb, hcc⟩ := HH.out.rd.2.2.2 (by omega)
      have hce := fun j u (hu : p0.cells[j]? = some u) => (HB.out.cell (p := ⟨b, o + (i * 10 + j), none⟩) hbb).trans (hcc _ _ (ens_get es i _ hp j u hu))
      have HP := Lib.hid hp
      have HIX := Lib.hid (HH.out.reads p0 (List.mem_of_getElem? hp)).ix
      have hlti : (i : Int) < (n : Int) := by omega
      have hin : (i : Int) ≤ 9223372036854775806 := by omega
      clear hcc hp
      by_cases hix : p0.ix = x
      · have HF := Lib.hid (fnd_hit HP.out HN.out hix)
        obtain ⟨ix, tm, st, kd, cl, rq, fr, ct, da, A1, bn, bc, ls⟩ := p0
        dsimp only at hix
        subst hix
        unfold En.cells at hce
        have k0 := hce 0 _ rfl
        have k1 := hce 1 _ rfl
        have k2 := hce 2 _ rfl
        have k3 := hce 3 _ rfl
        have k4 := hce 4 _ rfl
        have k5 := hce 5 _ rfl
        have k6 := hce 6 _ rfl
        have k7 := hce 7 _ rfl
        have k8 := hce 8 _ rfl
        have k9 := hce 9 _ rfl
        try dsimp only at k0 k1 k2 k3 k4 k5 k6 k7 k8 k9
        simp only [← Nat.add_assoc, Nat.add_zero] at k0 k1 k2 k3 k4 k5 k6 k7 k8 k9
        clear hce
        go_wp2_with (first
          | (refine wpL_estore rfl (.tmp 4) (.tmp 23) rfl (e := ⟨ix, tm, st, kd, cl, rq, fr, ct, da, A1, bn, bc, ls⟩) (d := Ez) rfl rfl hr4.out ?_; intro W9 hr9 hg9 hz9)
          | fail)
        refine bodyPost_ret (results_cell_tmp rfl _ p4 43 _ (0, 0) _ rfl hr9.out Tryd.underlying43 rfl (by rw [e_size]; rfl)) rfl ⟨by rw [HF.out]; rfl, HB.out.grown hg9 HB.out.size (fun k e => by cases e; exact hp4)⟩
      · have HF := Lib.hid (fnd_miss HP.out HN.out hix)
        obtain ⟨ix, tm, st, kd, cl, rq, fr, ct, da, A1, bn, bc, ls⟩ := p0
        dsimp only at hix
        unfold En.cells at hce
        have k0 := hce 0 _ rfl
        simp only [Nat.add_zero] at k0
        have q1 : ((ix : Int) == (x : Int)) = false := by simp; omega
        clear hce
        go_wp2
        go_roundw
        case rel => exact ⟨i + 1, by omega, by go_num, HF, trivial⟩
        case measure => simp [intOf]; omega
    · obtain rfl : i = n := by omega
      have HF := Lib.hid HN.out
      rw [List.take_of_length_le (by have := HH.out.len; omega)] at HF
      go_wp2_with (first
        | (refine wpL_ebuild rfl rfl ?_)
        | (refine wpL_estore rfl (.tmp 4) (.tmp 24) rfl (e := Ez) (d := Ez) rfl rfl hr4.out ?_; intro W9 hr9 hg9 hz9)
        | fail)
      refine bodyPost_ret (results_cell_tmp rfl _ p4 43 _ (0, 0) _ rfl hr9.out Tryd.underlying43 rfl (by rw [e_size]; rfl)) rfl ⟨by rw [HF.out]; rfl, HB.out.grown hg9 HB.out.size (fun k e => by cases e; exact hp4)⟩
end Go.Proofs.YtgejmeankppmhaaDoor

namespace Go.Proofs.YtgejmeankppmhaaDoor
open Go.RowKit
open Bh (En Ents ens ens_get ecell rmay_any)
set_option maxRecDepth 20000

/-- Two boxes of marks. -/
structure NX (w wr : World) (p4 p5 La Ba L B : Nat) : Prop where
  r4 : wr.heap[p4]? = some (.cells #[.int .u64 (La : Int), .int .u64 (Ba : Int)] 37 (0, 0))
  r5 : wr.heap[p5]? = some (.cells #[.int .u64 (L : Int), .int .u64 (B : Int)] 37 (0, 0))
  bel : Below w.heap.size w wr
theorem NX.below {w wr w' : World} {p4 p5 La Ba L B : Nat} (h : NX w wr p4 p5 La Ba L B) (hb : Below wr.heap.size wr w') : NX w w' p4 p5 La Ba L B :=
  ⟨row_below h.r4 hb, row_below h.r5 hb, h.bel.trans (hb.mono h.bel.size)⟩
theorem nx_new (w : World) (La Ba L B : Nat) : NX w ((w.alloc (.cells #[.int .u64 (La : Int), .int .u64 (Ba : Int)] 37)).alloc (.cells #[.int .u64 (L : Int), .int .u64 (B : Int)] 37)) w.heap.size (w.heap.size + 1) La Ba L B :=
  ⟨row_below (heap_alloc_new w _) ((Below.refl _ _).alloc (Nat.le_refl _) _), by have := heap_alloc_new (w.alloc (.cells #[.int .u64 (La : Int), .int .u64 (Ba : Int)] 37)) (.cells #[.int .u64 (L : Int), .int .u64 (B : Int)] 37); simpa using this, ((Below.refl _ _).alloc (Nat.le_refl _) _).alloc (by simp) _⟩
/-- The least of those looked at. -/
def Best (La Ba : Nat) (es : List En) (L B i y : Nat) : Prop := (y = 0 ∧ ∀ j o, j < i → es[j]? = some o → cand La Ba es L B o.ix = false) ∨ (cand La Ba es L B y = true ∧ ∀ j o, j < i → es[j]? = some o → cand La Ba es L B o.ix = true → y ≤ o.ix)
section
variable {La Ba : Nat} {es : List En} {L B i y : Nat} {p : En}
theorem Best.skip (h : Best La Ba es L B i y) (hp : es[i]? = some p) (hc : cand La Ba es L B p.ix = false) : Best La Ba es L B (i + 1) y := by
  rcases h with ⟨h1, h2⟩ | ⟨h1, h2⟩
  · refine .inl ⟨h1, fun j o hj ho => ?_⟩
    rcases Nat.lt_or_ge j i with h3 | h3
    · exact h2 j o h3 ho
    · obtain rfl : j = i := by omega
      rw [hp] at ho
      cases ho
      exact hc
  · refine .inr ⟨h1, fun j o hj ho hco => ?_⟩
    rcases Nat.lt_or_ge j i with h3 | h3
    · exact h2 j o h3 ho hco
    · obtain rfl : j = i := by omega
      rw [hp] at ho
      cases ho
      rw [hc] at hco
      cases hco
theorem Best.keep (h : Best La Ba es L B i y) (hp : es[i]? = some p) (h0 : y ≠ 0) (hle : y ≤ p.ix) : Best La Ba es L B (i + 1) y := by
  rcases h with ⟨h1, h2⟩ | ⟨h1, h2⟩
  · exact absurd h1 h0
  · refine .inr ⟨h1, fun j o hj ho hco => ?_⟩
    rcases Nat.lt_or_ge j i with h3 | h3
    · exact h2 j o h3 ho hco
    · obtain rfl : j = i := by omega
      rw [hp] at ho
      cases ho
      exact hle
theorem Best.take (h : Best La Ba es L B i y) (hp : es[i]? = some p) (hc : cand La Ba es L B p.ix = true) (hle : y = 0 ∨ p.ix < y) : Best La Ba es L B (i + 1) p.ix := by
  refine .inr ⟨hc, fun j o hj ho hco => ?_⟩
  rcases Nat.lt_or_ge j i with h3 | h3
  · rcases h with ⟨h1, h2⟩ | ⟨h1, h2⟩
    · rw [h2 j o h3 ho] at hco
      cases hco
    · have h4 := h2 j o h3 ho hco
      have h5 := cand_low h1
      omega
  · obtain rfl : j = i := by omega
    rw [hp] at ho
    cases ho
    exact Nat.le_refl _
/-- What next tells. -/
def NextIs (La Ba : Nat) (es : List En) (L B y : Nat) : Prop := (y = 0 ∧ ∀ z, cand La Ba es L B z = false) ∨ (cand La Ba es L B y = true ∧ ∀ z, cand La Ba es L B z = true → y ≤ z)
theorem Best.all (h : Best La Ba es L B es.length y) : NextIs La Ba es L B y := by
  have hx : ∀ z, cand La Ba es L B z = true → ∃ j o, j < es.length ∧ es[j]? = some o ∧ o.ix = z := fun z hz => by
    obtain ⟨e, _, _, hm, rfl⟩ := cand_find hz
    obtain ⟨j, hj⟩ := List.getElem?_of_mem hm
    exact ⟨j, e, (List.getElem?_eq_some_iff.1 hj).1, hj, rfl⟩
  rcases h with ⟨h1, h2⟩ | ⟨h1, h2⟩
  · refine .inl ⟨h1, fun z => ?_⟩
    cases hz : cand La Ba es L B z
    · rfl
    · obtain ⟨j, o, h3, h4, rfl⟩ := hx z hz
      rw [h2 j o h3 h4] at hz
      cases hz
  · refine .inr ⟨h1, fun z hz => ?_⟩
    obtain ⟨j, o, h3, h4, rfl⟩ := hx z hz
    exact h2 j o h3 h4 hz
theorem cand_is {x : Nat} {E : En} (hE : fnd es x = some E) : cand La Ba es L B x = (Hs La Ba x && (!Hs L B x && (decide (Room L x) && E.may L B))) := by
  unfold cand
  unfold fnd at hE
  rw [hE]
end
set_option maxHeartbeats 16000000 in
theorem rnext_any {w : World} {A : Option Addr} {n c : Nat} {es : List En} (h : Ents w A n c es) (La Ba L B : Nat) (hLa : La < 18446744073709551616) (hBa : Ba < 18446744073709551616) (hg : Gd L B) (hB : B < 18446744073709551616) :
    Calls Tryd.prog 37 #[.slice A n c, .agg #[.int .u64 (La : Int), .int .u64 (Ba : Int)], .agg #[.int .u64 (L : Int), .int .u64 (B : Int)]] w fun e w' => (∃ y : Nat, e = .returned (.int .u64 (y : Int)) ∧ NextIs La Ba es L B y) ∧ Below w.heap.size w w' := by
  have hcap := h.rd.2.1
  have hnc := h.rd.1
  have hnm : (n : Int) ≤ 9223372036854775807 := by unfold maxLen at hcap; omega
  have HH := Lib.hid h
  have hL := hg.1
  have HG := Lib.hid hg
  have HBB := Lib.hid hB
  have HLA := Lib.hid (And.intro hLa hBa)
  have HLL := Lib.hid hL
  clear h hcap hnc hLa hBa hg hB hL
  have HN0 := Lib.hid (nx_new w La Ba L B)
  go_enter Tryd.func37, Tryd.ntmps37
  go_wp2
  generalize (w.alloc (.cells #[.int .u64 (La : Int), .int .u64 (Ba : Int)] 37)).alloc (.cells #[.int .u64 (L : Int), .int .u64 (B : Int)] 37) = W at *
  obtain ⟨p4, hp4⟩ : ∃ p4, w.heap.size = p4 := ⟨_, rfl⟩
  obtain ⟨p5, hp5⟩ : ∃ p5, w.heap.size + 1 = p5 := ⟨_, rfl⟩
  simp only [hp5] at HN0 ⊢
  have HN00 : Hid (NX w W p4 p5 La Ba L B) := hp4 ▸ HN0
  rw [hp4]
  clear HN0 hp4 hp5
  go_loopw [8, 7] (fun ir yr wr => ∃ (i y : Nat), i ≤ n ∧ ir = .int .i64 (i : Int) ∧ yr = .int .u64 (y : Int) ∧ Hid (Best La Ba es L B i y) ∧ Hid (NX w wr p4 p5 La Ba L B)) (fun ir _ _ => n - (intOf ir).toNat)
  case atStart => exact ⟨0, 0, Nat.zero_le _, rfl, rfl, Lib.hid (.inl ⟨rfl, fun j o hj => absurd hj (Nat.not_lt_zero _)⟩), HN00⟩
  case round =>
    obtain ⟨i, y, hi, rfl, rfl, HT, HN⟩ := hrel
    by_cases hlt : i < n
    · obtain ⟨p0, hp⟩ : ∃ p0, es[i]? = some p0 := ⟨_, List.getElem?_eq_getElem (by have := HH.out.len; omega)⟩
      obtain ⟨b, o, rfl, hbb, hcc⟩ := HH.out.rd.2.2.2 (by omega)
      have k0 := (HN.out.bel.cell (p := ⟨b, o + (i * 10 + 0), none⟩) hbb).trans (hcc _ _ (ens_get es i _ hp 0 _ rfl))
      have HP := Lib.hid hp
      have hix := (HH.out.reads p0 (List.mem_of_getElem? hp)).ix
      have hlti : (i : Int) < (n : Int) := by omega
      have hin : (i : Int) ≤ 9223372036854775806 := by omega
      obtain ⟨E, hE⟩ : ∃ E, fnd es p0.ix = some E := by
        unfold fnd
        cases hf : es.find? (fun e => decide (e.ix = p0.ix)) with
        | some E => exact ⟨E, rfl⟩
        | none => exact absurd (List.find?_eq_none.1 hf p0 (List.mem_of_getElem? hp)) (by simp)
      have hEm : E ∈ es ∧ E.ix = p0.ix := ⟨List.mem_of_find?_eq_some hE, by have := List.find?_some hE; simpa using this⟩
      have hcand := cand_is (La := La) (Ba := Ba) (L := L) (B := B) hE
      have HF0 := fun W (hb : Below w.heap.size w W) => rfirst_any (HH.out.below hb) p0.ix hix
      rw [hE] at HF0
      have HF := Lib.hid HF0
      have HY0 := fun W (hb : Below w.heap.size w W) => rmay_any E L B W ((HH.out.reads E hEm.1).below hb) (by have := HLL.out; omega) HBB.out
      have HY := Lib.hid HY0
      have HA := Lib.hid (fun W => rhas_any La Ba p0.ix W HLA.out.1 HLA.out.2 hix)
      have HB := Lib.hid (fun W => rhas_any L B p0.ix W (by have := HLL.out; omega) HBB.out hix)
      have HSY0 := fun (hr : Room L p0.ix) W => rset_ok L B p0.ix W HBB.out HG.out hr
      have HSN0 := fun (hr : ¬ Room L p0.ix) W => rset_no L B p0.ix W HLL.out hix hr
      have hlow : p0.ix = 0 → Hs L B p0.ix = true := fun h => hs_low (by omega)
      clear HF0 HY0 hcc hp hE
      have hxx := hEm.2
      clear hEm
      obtain ⟨x, hx⟩ : ∃ x, p0.ix = x := ⟨_, rfl⟩
      have HSK := Lib.hid (fun h => Best.skip (La := La) (Ba := Ba) HT.out HP.out h)
      have HKP := Lib.hid (fun h1 h2 => Best.keep HT.out HP.out h1 h2)
      have HTK := Lib.hid (fun h1 h2 => Best.take (La := La) (Ba := Ba) HT.out HP.out h1 h2)
      have e00 : p0.cells[0]? = some (.int .u64 (p0.ix : Int)) := rfl
      rw [hx] at hcand HA HB HSY0 HSN0 HF hlow HSK HKP HTK hxx hix
      have k1 : wr.cell? ⟨b, o + i * 10, none⟩ = some (.int .u64 (x : Int)) := by rw [← hx]; exact k0
      clear k0 e00 hx HP HT
      obtain ⟨m1, hm1⟩ : ∃ m1, E.may L B = m1 := ⟨_, rfl⟩
      rw [hm1] at hcand HY
      obtain ⟨ix, tm, st, kd, cl, rq, fr, ct, da, A1, bn, bc, ls⟩ := E
      dsimp only at hxx
      subst hxx
      unfold Option.getD En.cells at HF
      unfold En.cells at HY
      dsimp only [Option.isSome] at HF HY
      clear hm1
      obtain ⟨ha, hha⟩ : ∃ b, Hs La Ba ix = b := ⟨_, rfl⟩
      obtain ⟨hb, hhb⟩ : ∃ b, Hs L B ix = b := ⟨_, rfl⟩
      rw [hha] at HA hcand
      rw [hhb] at HB hcand hlow
      clear hha hhb
      rcases Nat.eq_zero_or_pos ix with h0 | h0
      · have HSY := Lib.hid (HSY0 (by rw [h0]; exact ⟨by omega, by omega⟩))
        have HK := Lib.hid (HSK.out (by rw [hcand, hlow h0]; simp))
        clear HSY0 HSN0 hlow hcand HKP HTK HSK
        have q0 : ¬ 0 < ix := by omega
        clear h0
        go_wp2_with (first
          | (go_at_call 59; refine (HF.out _ HN.out.bel).mono ?_; rintro e w1 ⟨rfl, hb1⟩
             have HN1 := Lib.hid (HN.out.below hb1)
             clear hb1
             have fp40 : ∀ cs : Obj, (w1.alloc cs).cell? ⟨p4, 0, none⟩ = some (.int .u64 (La : Int)) := fun cs => cell_of_row _ p4 0 _ _ _ ((HN1.out.below ((Below.refl _ _).alloc (Nat.le_refl _) cs)).r4)
             have fp41 : ∀ cs : Obj, (w1.alloc cs).cell? ⟨p4, 1, none⟩ = some (.int .u64 (Ba : Int)) := fun cs => cell_of_row _ p4 1 _ _ _ ((HN1.out.below ((Below.refl _ _).alloc (Nat.le_refl _) cs)).r4)
             have fp50 : ∀ cs : Obj, (w1.alloc cs).cell? ⟨p5, 0, none⟩ = some (.int .u64 (L : Int)) := fun cs => cell_of_row _ p5 0 _ _ _ ((HN1.out.below ((Below.refl _ _).alloc (Nat.le_refl _) cs)).r5)
             have fp51 : ∀ cs : Obj, (w1.alloc cs).cell? ⟨p5, 1, none⟩ = some (.int .u64 (B : Int)) := fun cs => cell_of_row _ p5 1 _ _ _ ((HN1.out.below ((Below.refl _ _).alloc (Nat.le_refl _) cs)).r5)
             skip)
          | (go_at_call 29; refine (HSY.out _).mono ?_; rintro e w2 ⟨rfl, hb2⟩
             have HN2 := Lib.hid ((HN1.out.below ((Below.refl _ _).alloc (Nat.le_refl _) (.cells #[.int .u64 (ix : Int), .int .u64 (tm : Int), .int .u64 (st : Int), .int .i64 kd, .int .u64 (cl : Int), .int .u64 (rq : Int), .int .u32 (fr : Int), .int .u32 (ct : Int), .string (str da), .slice A1 bn bc] 43))).below hb2)
             have HE2 := Lib.hid (row_below (heap_alloc_new w1 (.cells #[.int .u64 (ix : Int), .int .u64 (tm : Int), .int .u64 (st : Int), .int .i64 kd, .int .u64 (cl : Int), .int .u64 (rq : Int), .int .u32 (fr : Int), .int .u32 (ct : Int), .string (str da), .slice A1 bn bc] 43)) hb2)
             obtain ⟨p10, hp10⟩ : ∃ p10, w1.heap.size = p10 := ⟨_, rfl⟩
             rw [hp10] at HE2 ⊢
             clear hb2 fp40 fp41 fp50 fp51 HN1 hp10
             have fp40 : ∀ cs : Obj, (w2.alloc cs).cell? ⟨p4, 0, none⟩ = some (.int .u64 (La : Int)) := fun cs => cell_of_row _ p4 0 _ _ _ ((HN2.out.below ((Below.refl _ _).alloc (Nat.le_refl _) cs)).r4)
             have fp41 : ∀ cs : Obj, (w2.alloc cs).cell? ⟨p4, 1, none⟩ = some (.int .u64 (Ba : Int)) := fun cs => cell_of_row _ p4 1 _ _ _ ((HN2.out.below ((Below.refl _ _).alloc (Nat.le_refl _) cs)).r4)
             have fp50 : ∀ cs : Obj, (w2.alloc cs).cell? ⟨p5, 0, none⟩ = some (.int .u64 (L : Int)) := fun cs => cell_of_row _ p5 0 _ _ _ ((HN2.out.below ((Below.refl _ _).alloc (Nat.le_refl _) cs)).r5)
             have fp51 : ∀ cs : Obj, (w2.alloc cs).cell? ⟨p5, 1, none⟩ = some (.int .u64 (B : Int)) := fun cs => cell_of_row _ p5 1 _ _ _ ((HN2.out.below ((Below.refl _ _).alloc (Nat.le_refl _) cs)).r5)
             have HE3 := Lib.hid (fun cs : Obj => row_below HE2.out ((Below.refl w2.heap.size w2).alloc (Nat.le_refl _) cs))
             have HN3 := Lib.hid (fun cs : Obj => HN2.out.below ((Below.refl w2.heap.size w2).alloc (Nat.le_refl _) cs))
             clear HN2 HE2)
          | (go_at_call 28; refine (HA.out _).mono ?_; rintro e w3 ⟨rfl, hb3⟩
             have HN4 := Lib.hid ((HN3.out _).below hb3)
             have HE4 := Lib.hid (row_below (HE3.out _) hb3)
             clear hb3 fp40 fp41 fp50 fp51 HA HN3 HE3
             have fp40 := cell_of_row w3 p4 0 _ _ _ HN4.out.r4
             have fp41 := cell_of_row w3 p4 1 _ _ _ HN4.out.r4
             have fp50 := cell_of_row w3 p5 0 _ _ _ HN4.out.r5
             have fp51 := cell_of_row w3 p5 1 _ _ _ HN4.out.r5
             skip)
          | (go_at_call 28; refine (HB.out _).mono ?_; rintro e w4 ⟨rfl, hb4⟩
             have HN5 := Lib.hid (HN4.out.below hb4)
             have hE5 := row_below HE4.out hb4
             clear hb4 fp40 fp41 fp50 fp51 HB HN4 HE4
             have fp40 := cell_of_row w4 p4 0 _ _ _ HN5.out.r4
             have fp41 := cell_of_row w4 p4 1 _ _ _ HN5.out.r4
             have fp50 := cell_of_row w4 p5 0 _ _ _ HN5.out.r5
             have fp51 := cell_of_row w4 p5 1 _ _ _ HN5.out.r5
             have e0 := cell_of_row w4 p10 0 _ _ _ hE5
             have e1 := cell_of_row w4 p10 1 _ _ _ hE5
             have e2 := cell_of_row w4 p10 2 _ _ _ hE5
             have e3 := cell_of_row w4 p10 3 _ _ _ hE5
             have e4 := cell_of_row w4 p10 4 _ _ _ hE5
             have e5 := cell_of_row w4 p10 5 _ _ _ hE5
             have e6 := cell_of_row w4 p10 6 _ _ _ hE5
             have e7 := cell_of_row w4 p10 7 _ _ _ hE5
             have e8 := cell_of_row w4 p10 8 _ _ _ hE5
             have e9 := cell_of_row w4 p10 9 _ _ _ hE5
             clear hE5)
          | (go_at_call 13; refine (HY.out _ HN5.out.bel).mono ?_; rintro e w5 ⟨rfl, hb5⟩
             have HN6 := Lib.hid (HN5.out.below hb5)
             clear hb5 fp40 fp41 fp50 fp51 HY HN5 e0 e1 e2 e3 e4 e5 e6 e7 e8 e9)
          | fail)
        go_roundw
        case rel => exact ⟨i + 1, y, by omega, by go_num, rfl, HK, Lib.hid (HN3.out _)⟩
        case measure => simp [intOf]; omega
      · have q0 : 0 < ix := h0
        by_cases hr : Room L ix
        · have HSY := Lib.hid (HSY0 hr)
          rw [decide_eq_true hr] at hcand
          clear HSY0 HSN0 hlow hr
          cases ha
          · have HK := Lib.hid (HSK.out (by rw [hcand]; simp))
            clear hcand HKP HTK HSK
            go_wp2_with (first
              | (go_at_call 59; refine (HF.out _ HN.out.bel).mono ?_; rintro e w1 ⟨rfl, hb1⟩
                 have HN1 := Lib.hid (HN.out.below hb1)
                 clear hb1
                 have fp40 : ∀ cs : Obj, (w1.alloc cs).cell? ⟨p4, 0, none⟩ = some (.int .u64 (La : Int)) := fun cs => cell_of_row _ p4 0 _ _ _ ((HN1.out.below ((Below.refl _ _).alloc (Nat.le_refl _) cs)).r4)
                 have fp41 : ∀ cs : Obj, (w1.alloc cs).cell? ⟨p4, 1, none⟩ = some (.int .u64 (Ba : Int)) := fun cs => cell_of_row _ p4 1 _ _ _ ((HN1.out.below ((Below.refl _ _).alloc (Nat.le_refl _) cs)).r4)
                 have fp50 : ∀ cs : Obj, (w1.alloc cs).cell? ⟨p5, 0, none⟩ = some (.int .u64 (L : Int)) := fun cs => cell_of_row _ p5 0 _ _ _ ((HN1.out.below ((Below.refl _ _).alloc (Nat.le_refl _) cs)).r5)
                 have fp51 : ∀ cs : Obj, (w1.alloc cs).cell? ⟨p5, 1, none⟩ = some (.int .u64 (B : Int)) := fun cs => cell_of_row _ p5 1 _ _ _ ((HN1.out.below ((Below.refl _ _).alloc (Nat.le_refl _) cs)).r5)
                 skip)
              | (go_at_call 29; refine (HSY.out _).mono ?_; rintro e w2 ⟨rfl, hb2⟩
                 have HN2 := Lib.hid ((HN1.out.below ((Below.refl _ _).alloc (Nat.le_refl _) (.cells #[.int .u64 (ix : Int), .int .u64 (tm : Int), .int .u64 (st : Int), .int .i64 kd, .int .u64 (cl : Int), .int .u64 (rq : Int), .int .u32 (fr : Int), .int .u32 (ct : Int), .string (str da), .slice A1 bn bc] 43))).below hb2)
                 have HE2 := Lib.hid (row_below (heap_alloc_new w1 (.cells #[.int .u64 (ix : Int), .int .u64 (tm : Int), .int .u64 (st : Int), .int .i64 kd, .int .u64 (cl : Int), .int .u64 (rq : Int), .int .u32 (fr : Int), .int .u32 (ct : Int), .string (str da), .slice A1 bn bc] 43)) hb2)
                 obtain ⟨p10, hp10⟩ : ∃ p10, w1.heap.size = p10 := ⟨_, rfl⟩
                 rw [hp10] at HE2 ⊢
                 clear hb2 fp40 fp41 fp50 fp51 HN1 hp10
                 have fp40 : ∀ cs : Obj, (w2.alloc cs).cell? ⟨p4, 0, none⟩ = some (.int .u64 (La : Int)) := fun cs => cell_of_row _ p4 0 _ _ _ ((HN2.out.below ((Below.refl _ _).alloc (Nat.le_refl _) cs)).r4)
                 have fp41 : ∀ cs : Obj, (w2.alloc cs).cell? ⟨p4, 1, none⟩ = some (.int .u64 (Ba : Int)) := fun cs => cell_of_row _ p4 1 _ _ _ ((HN2.out.below ((Below.refl _ _).alloc (Nat.le_refl _) cs)).r4)
                 have fp50 : ∀ cs : Obj, (w2.alloc cs).cell? ⟨p5, 0, none⟩ = some (.int .u64 (L : Int)) := fun cs => cell_of_row _ p5 0 _ _ _ ((HN2.out.below ((Below.refl _ _).alloc (Nat.le_refl _) cs)).r5)
                 have fp51 : ∀ cs : Obj, (w2.alloc cs).cell? ⟨p5, 1, none⟩ = some (.int .u64 (B : Int)) := fun cs => cell_of_row _ p5 1 _ _ _ ((HN2.out.below ((Below.refl _ _).alloc (Nat.le_refl _) cs)).r5)
                 have HE3 := Lib.hid (fun cs : Obj => row_below HE2.out ((Below.refl w2.heap.size w2).alloc (Nat.le_refl _) cs))
                 have HN3 := Lib.hid (fun cs : Obj => HN2.out.below ((Below.refl w2.heap.size w2).alloc (Nat.le_refl _) cs))
                 clear HN2 HE2)
              | (go_at_call 28; refine (HA.out _).mono ?_; rintro e w3 ⟨rfl, hb3⟩
                 have HN4 := Lib.hid ((HN3.out _).below hb3)
                 have HE4 := Lib.hid (row_below (HE3.out _) hb3)
                 clear hb3 fp40 fp41 fp50 fp51 HA HN3 HE3
                 have fp40 := cell_of_row w3 p4 0 _ _ _ HN4.out.r4
                 have fp41 := cell_of_row w3 p4 1 _ _ _ HN4.out.r4
                 have fp50 := cell_of_row w3 p5 0 _ _ _ HN4.out.r5
                 have fp51 := cell_of_row w3 p5 1 _ _ _ HN4.out.r5
                 skip)
              | (go_at_call 28; refine (HB.out _).mono ?_; rintro e w4 ⟨rfl, hb4⟩
                 have HN5 := Lib.hid (HN4.out.below hb4)
                 have hE5 := row_below HE4.out hb4
                 clear hb4 fp40 fp41 fp50 fp51 HB HN4 HE4
                 have fp40 := cell_of_row w4 p4 0 _ _ _ HN5.out.r4
                 have fp41 := cell_of_row w4 p4 1 _ _ _ HN5.out.r4
                 have fp50 := cell_of_row w4 p5 0 _ _ _ HN5.out.r5
                 have fp51 := cell_of_row w4 p5 1 _ _ _ HN5.out.r5
                 have e0 := cell_of_row w4 p10 0 _ _ _ hE5
                 have e1 := cell_of_row w4 p10 1 _ _ _ hE5
                 have e2 := cell_of_row w4 p10 2 _ _ _ hE5
                 have e3 := cell_of_row w4 p10 3 _ _ _ hE5
                 have e4 := cell_of_row w4 p10 4 _ _ _ hE5
                 have e5 := cell_of_row w4 p10 5 _ _ _ hE5
                 have e6 := cell_of_row w4 p10 6 _ _ _ hE5
                 have e7 := cell_of_row w4 p10 7 _ _ _ hE5
                 have e8 := cell_of_row w4 p10 8 _ _ _ hE5
                 have e9 := cell_of_row w4 p10 9 _ _ _ hE5
                 clear hE5)
              | (go_at_call 13; refine (HY.out _ HN5.out.bel).mono ?_; rintro e w5 ⟨rfl, hb5⟩
                 have HN6 := Lib.hid (HN5.out.below hb5)
                 clear hb5 fp40 fp41 fp50 fp51 HY HN5 e0 e1 e2 e3 e4 e5 e6 e7 e8 e9)
              | fail)
            go_roundw
            case rel => exact ⟨i + 1, y, by omega, by go_num, rfl, HK, HN4⟩
            case measure => simp [intOf]; omega
          · cases hb
            · cases m1
              · have HK := Lib.hid (HSK.out (by rw [hcand]; simp))
                clear hcand HKP HTK HSK
                go_wp2_with (first
                  | (go_at_call 59; refine (HF.out _ HN.out.bel).mono ?_; rintro e w1 ⟨rfl, hb1⟩
                     have HN1 := Lib.hid (HN.out.below hb1)
                     clear hb1
                     have fp40 : ∀ cs : Obj, (w1.alloc cs).cell? ⟨p4, 0, none⟩ = some (.int .u64 (La : Int)) := fun cs => cell_of_row _ p4 0 _ _ _ ((HN1.out.below ((Below.refl _ _).alloc (Nat.le_refl _) cs)).r4)
                     have fp41 : ∀ cs : Obj, (w1.alloc cs).cell? ⟨p4, 1, none⟩ = some (.int .u64 (Ba : Int)) := fun cs => cell_of_row _ p4 1 _ _ _ ((HN1.out.below ((Below.refl _ _).alloc (Nat.le_refl _) cs)).r4)
                     have fp50 : ∀ cs : Obj, (w1.alloc cs).cell? ⟨p5, 0, none⟩ = some (.int .u64 (L : Int)) := fun cs => cell_of_row _ p5 0 _ _ _ ((HN1.out.below ((Below.refl _ _).alloc (Nat.le_refl _) cs)).r5)
                     have fp51 : ∀ cs : Obj, (w1.alloc cs).cell? ⟨p5, 1, none⟩ = some (.int .u64 (B : Int)) := fun cs => cell_of_row _ p5 1 _ _ _ ((HN1.out.below ((Below.refl _ _).alloc (Nat.le_refl _) cs)).r5)
                     skip)
                  | (go_at_call 29; refine (HSY.out _).mono ?_; rintro e w2 ⟨rfl, hb2⟩
                     have HN2 := Lib.hid ((HN1.out.below ((Below.refl _ _).alloc (Nat.le_refl _) (.cells #[.int .u64 (ix : Int), .int .u64 (tm : Int), .int .u64 (st : Int), .int .i64 kd, .int .u64 (cl : Int), .int .u64 (rq : Int), .int .u32 (fr : Int), .int .u32 (ct : Int), .string (str da), .slice A1 bn bc] 43))).below hb2)
                     have HE2 := Lib.hid (row_below (heap_alloc_new w1 (.cells #[.int .u64 (ix : Int), .int .u64 (tm : Int), .int .u64 (st : Int), .int .i64 kd, .int .u64 (cl : Int), .int .u64 (rq : Int), .int .u32 (fr : Int), .int .u32 (ct : Int), .string (str da), .slice A1 bn bc] 43)) hb2)
                     obtain ⟨p10, hp10⟩ : ∃ p10, w1.heap.size = p10 := ⟨_, rfl⟩
                     rw [hp10] at HE2 ⊢
                     clear hb2 fp40 fp41 fp50 fp51 HN1 hp10
                     have fp40 : ∀ cs : Obj, (w2.alloc cs).cell? ⟨p4, 0, none⟩ = some (.int .u64 (La : Int)) := fun cs => cell_of_row _ p4 0 _ _ _ ((HN2.out.below ((Below.refl _ _).alloc (Nat.le_refl _) cs)).r4)
                     have fp41 : ∀ cs : Obj, (w2.alloc cs).cell? ⟨p4, 1, none⟩ = some (.int .u64 (Ba : Int)) := fun cs => cell_of_row _ p4 1 _ _ _ ((HN2.out.below ((Below.refl _ _).alloc (Nat.le_refl _) cs)).r4)
                     have fp50 : ∀ cs : Obj, (w2.alloc cs).cell? ⟨p5, 0, none⟩ = some (.int .u64 (L : Int)) := fun cs => cell_of_row _ p5 0 _ _ _ ((HN2.out.below ((Below.refl _ _).alloc (Nat.le_refl _) cs)).r5)
                     have fp51 : ∀ cs : Obj, (w2.alloc cs).cell? ⟨p5, 1, none⟩ = some (.int .u64 (B : Int)) := fun cs => cell_of_row _ p5 1 _ _ _ ((HN2.out.below ((Below.refl _ _).alloc (Nat.le_refl _) cs)).r5)
                     have HE3 := Lib.hid (fun cs : Obj => row_below HE2.out ((Below.refl w2.heap.size w2).alloc (Nat.le_refl _) cs))
                     have HN3 := Lib.hid (fun cs : Obj => HN2.out.below ((Below.refl w2.heap.size w2).alloc (Nat.le_refl _) cs))
                     clear HN2 HE2)
                  | (go_at_call 28; refine (HA.out _).mono ?_; rintro e w3 ⟨rfl, hb3⟩
                     have HN4 := Lib.hid ((HN3.out _).below hb3)
                     have HE4 := Lib.hid (row_below (HE3.out _) hb3)
                     clear hb3 fp40 fp41 fp50 fp51 HA HN3 HE3
                     have fp40 := cell_of_row w3 p4 0 _ _ _ HN4.out.r4
                     have fp41 := cell_of_row w3 p4 1 _ _ _ HN4.out.r4
                     have fp50 := cell_of_row w3 p5 0 _ _ _ HN4.out.r5
                     have fp51 := cell_of_row w3 p5 1 _ _ _ HN4.out.r5
                     skip)
                  | (go_at_call 28; refine (HB.out _).mono ?_; rintro e w4 ⟨rfl, hb4⟩
                     have HN5 := Lib.hid (HN4.out.below hb4)
                     have hE5 := row_below HE4.out hb4
                     clear hb4 fp40 fp41 fp50 fp51 HB HN4 HE4
                     have fp40 := cell_of_row w4 p4 0 _ _ _ HN5.out.r4
                     have fp41 := cell_of_row w4 p4 1 _ _ _ HN5.out.r4
                     have fp50 := cell_of_row w4 p5 0 _ _ _ HN5.out.r5
                     have fp51 := cell_of_row w4 p5 1 _ _ _ HN5.out.r5
                     have e0 := cell_of_row w4 p10 0 _ _ _ hE5
                     have e1 := cell_of_row w4 p10 1 _ _ _ hE5
                     have e2 := cell_of_row w4 p10 2 _ _ _ hE5
                     have e3 := cell_of_row w4 p10 3 _ _ _ hE5
                     have e4 := cell_of_row w4 p10 4 _ _ _ hE5
                     have e5 := cell_of_row w4 p10 5 _ _ _ hE5
                     have e6 := cell_of_row w4 p10 6 _ _ _ hE5
                     have e7 := cell_of_row w4 p10 7 _ _ _ hE5
                     have e8 := cell_of_row w4 p10 8 _ _ _ hE5
                     have e9 := cell_of_row w4 p10 9 _ _ _ hE5
                     clear hE5)
                  | (go_at_call 13; refine (HY.out _ HN5.out.bel).mono ?_; rintro e w5 ⟨rfl, hb5⟩
                     have HN6 := Lib.hid (HN5.out.below hb5)
                     clear hb5 fp40 fp41 fp50 fp51 HY HN5 e0 e1 e2 e3 e4 e5 e6 e7 e8 e9)
                  | fail)
                go_roundw
                case rel => exact ⟨i + 1, y, by omega, by go_num, rfl, HK, HN6⟩
                case measure => simp [intOf]; omega
              · have hc1 : cand La Ba es L B ix = true := by rw [hcand]; rfl
                by_cases hy : y = 0
                · have HK := Lib.hid (HTK.out hc1 (.inl hy))
                  clear hcand HKP HTK HSK hc1
                  subst hy
                  go_wp2_with (first
                    | (go_at_call 59; refine (HF.out _ HN.out.bel).mono ?_; rintro e w1 ⟨rfl, hb1⟩
                       have HN1 := Lib.hid (HN.out.below hb1)
                       clear hb1
                       have fp40 : ∀ cs : Obj, (w1.alloc cs).cell? ⟨p4, 0, none⟩ = some (.int .u64 (La : Int)) := fun cs => cell_of_row _ p4 0 _ _ _ ((HN1.out.below ((Below.refl _ _).alloc (Nat.le_refl _) cs)).r4)
                       have fp41 : ∀ cs : Obj, (w1.alloc cs).cell? ⟨p4, 1, none⟩ = some (.int .u64 (Ba : Int)) := fun cs => cell_of_row _ p4 1 _ _ _ ((HN1.out.below ((Below.refl _ _).alloc (Nat.le_refl _) cs)).r4)
                       have fp50 : ∀ cs : Obj, (w1.alloc cs).cell? ⟨p5, 0, none⟩ = some (.int .u64 (L : Int)) := fun cs => cell_of_row _ p5 0 _ _ _ ((HN1.out.below ((Below.refl _ _).alloc (Nat.le_refl _) cs)).r5)
                       have fp51 : ∀ cs : Obj, (w1.alloc cs).cell? ⟨p5, 1, none⟩ = some (.int .u64 (B : Int)) := fun cs => cell_of_row _ p5 1 _ _ _ ((HN1.out.below ((Below.refl _ _).alloc (Nat.le_refl _) cs)).r5)
                       skip)
                    | (go_at_call 29; refine (HSY.out _).mono ?_; rintro e w2 ⟨rfl, hb2⟩
                       have HN2 := Lib.hid ((HN1.out.below ((Below.refl _ _).alloc (Nat.le_refl _) (.cells #[.int .u64 (ix : Int), .int .u64 (tm : Int), .int .u64 (st : Int), .int .i64 kd, .int .u64 (cl : Int), .int .u64 (rq : Int), .int .u32 (fr : Int), .int .u32 (ct : Int), .string (str da), .slice A1 bn bc] 43))).below hb2)
                       have HE2 := Lib.hid (row_below (heap_alloc_new w1 (.cells #[.int .u64 (ix : Int), .int .u64 (tm : Int), .int .u64 (st : Int), .int .i64 kd, .int .u64 (cl : Int), .int .u64 (rq : Int), .int .u32 (fr : Int), .int .u32 (ct : Int), .string (str da), .slice A1 bn bc] 43)) hb2)
                       obtain ⟨p10, hp10⟩ : ∃ p10, w1.heap.size = p10 := ⟨_, rfl⟩
                       rw [hp10] at HE2 ⊢
                       clear hb2 fp40 fp41 fp50 fp51 HN1 hp10
                       have fp40 : ∀ cs : Obj, (w2.alloc cs).cell? ⟨p4, 0, none⟩ = some (.int .u64 (La : Int)) := fun cs => cell_of_row _ p4 0 _ _ _ ((HN2.out.below ((Below.refl _ _).alloc (Nat.le_refl _) cs)).r4)
                       have fp41 : ∀ cs : Obj, (w2.alloc cs).cell? ⟨p4, 1, none⟩ = some (.int .u64 (Ba : Int)) := fun cs => cell_of_row _ p4 1 _ _ _ ((HN2.out.below ((Below.refl _ _).alloc (Nat.le_refl _) cs)).r4)
                       have fp50 : ∀ cs : Obj, (w2.alloc cs).cell? ⟨p5, 0, none⟩ = some (.int .u64 (L : Int)) := fun cs => cell_of_row _ p5 0 _ _ _ ((HN2.out.below ((Below.refl _ _).alloc (Nat.le_refl _) cs)).r5)
                       have fp51 : ∀ cs : Obj, (w2.alloc cs).cell? ⟨p5, 1, none⟩ = some (.int .u64 (B : Int)) := fun cs => cell_of_row _ p5 1 _ _ _ ((HN2.out.below ((Below.refl _ _).alloc (Nat.le_refl _) cs)).r5)
                       have HE3 := Lib.hid (fun cs : Obj => row_below HE2.out ((Below.refl w2.heap.size w2).alloc (Nat.le_refl _) cs))
                       have HN3 := Lib.hid (fun cs : Obj => HN2.out.below ((Below.refl w2.heap.size w2).alloc (Nat.le_refl _) cs))
                       clear HN2 HE2)
                    | (go_at_call 28; refine (HA.out _).mono ?_; rintro e w3 ⟨rfl, hb3⟩
                       have HN4 := Lib.hid ((HN3.out _).below hb3)
                       have HE4 := Lib.hid (row_below (HE3.out _) hb3)
                       clear hb3 fp40 fp41 fp50 fp51 HA HN3 HE3
                       have fp40 := cell_of_row w3 p4 0 _ _ _ HN4.out.r4
                       have fp41 := cell_of_row w3 p4 1 _ _ _ HN4.out.r4
                       have fp50 := cell_of_row w3 p5 0 _ _ _ HN4.out.r5
                       have fp51 := cell_of_row w3 p5 1 _ _ _ HN4.out.r5
                       skip)
                    | (go_at_call 28; refine (HB.out _).mono ?_; rintro e w4 ⟨rfl, hb4⟩
                       have HN5 := Lib.hid (HN4.out.below hb4)
                       have hE5 := row_below HE4.out hb4
                       clear hb4 fp40 fp41 fp50 fp51 HB HN4 HE4
                       have fp40 := cell_of_row w4 p4 0 _ _ _ HN5.out.r4
                       have fp41 := cell_of_row w4 p4 1 _ _ _ HN5.out.r4
                       have fp50 := cell_of_row w4 p5 0 _ _ _ HN5.out.r5
                       have fp51 := cell_of_row w4 p5 1 _ _ _ HN5.out.r5
                       have e0 := cell_of_row w4 p10 0 _ _ _ hE5
                       have e1 := cell_of_row w4 p10 1 _ _ _ hE5
                       have e2 := cell_of_row w4 p10 2 _ _ _ hE5
                       have e3 := cell_of_row w4 p10 3 _ _ _ hE5
                       have e4 := cell_of_row w4 p10 4 _ _ _ hE5
                       have e5 := cell_of_row w4 p10 5 _ _ _ hE5
                       have e6 := cell_of_row w4 p10 6 _ _ _ hE5
                       have e7 := cell_of_row w4 p10 7 _ _ _ hE5
                       have e8 := cell_of_row w4 p10 8 _ _ _ hE5
                       have e9 := cell_of_row w4 p10 9 _ _ _ hE5
                       clear hE5)
                    | (go_at_call 13; refine (HY.out _ HN5.out.bel).mono ?_; rintro e w5 ⟨rfl, hb5⟩
                       have HN6 := Lib.hid (HN5.out.below hb5)
                       clear hb5 fp40 fp41 fp50 fp51 HY HN5 e0 e1 e2 e3 e4 e5 e6 e7 e8 e9)
                    | fail)
                  go_roundw
                  case rel => exact ⟨i + 1, ix, by omega, by go_num, rfl, HK, HN6⟩
                  case measure => simp [intOf]; omega
                · by_cases hlt2 : ix < y
                  · have HK := Lib.hid (HTK.out hc1 (.inr hlt2))
                    clear hcand HKP HTK HSK hc1
                    go_wp2_with (first
                      | (go_at_call 59; refine (HF.out _ HN.out.bel).mono ?_; rintro e w1 ⟨rfl, hb1⟩
                         have HN1 := Lib.hid (HN.out.below hb1)
                         clear hb1
                         have fp40 : ∀ cs : Obj, (w1.alloc cs).cell? ⟨p4, 0, none⟩ = some (.int .u64 (La : Int)) := fun cs => cell_of_row _ p4 0 _ _ _ ((HN1.out.below ((Below.refl _ _).alloc (Nat.le_refl _) cs)).r4)
                         have fp41 : ∀ cs : Obj, (w1.alloc cs).cell? ⟨p4, 1, none⟩ = some (.int .u64 (Ba : Int)) := fun cs => cell_of_row _ p4 1 _ _ _ ((HN1.out.below ((Below.refl _ _).alloc (Nat.le_refl _) cs)).r4)
                         have fp50 : ∀ cs : Obj, (w1.alloc cs).cell? ⟨p5, 0, none⟩ = some (.int .u64 (L : Int)) := fun cs => cell_of_row _ p5 0 _ _ _ ((HN1.out.below ((Below.refl _ _).alloc (Nat.le_refl _) cs)).r5)
                         have fp51 : ∀ cs : Obj, (w1.alloc cs).cell? ⟨p5, 1, none⟩ = some (.int .u64 (B : Int)) := fun cs => cell_of_row _ p5 1 _ _ _ ((HN1.out.below ((Below.refl _ _).alloc (Nat.le_refl _) cs)).r5)
                         skip)
                      | (go_at_call 29; refine (HSY.out _).mono ?_; rintro e w2 ⟨rfl, hb2⟩
                         have HN2 := Lib.hid ((HN1.out.below ((Below.refl _ _).alloc (Nat.le_refl _) (.cells #[.int .u64 (ix : Int), .int .u64 (tm : Int), .int .u64 (st : Int), .int .i64 kd, .int .u64 (cl : Int), .int .u64 (rq : Int), .int .u32 (fr : Int), .int .u32 (ct : Int), .string (str da), .slice A1 bn bc] 43))).below hb2)
                         have HE2 := Lib.hid (row_below (heap_alloc_new w1 (.cells #[.int .u64 (ix : Int), .int .u64 (tm : Int), .int .u64 (st : Int), .int .i64 kd, .int .u64 (cl : Int), .int .u64 (rq : Int), .int .u32 (fr : Int), .int .u32 (ct : Int), .string (str da), .slice A1 bn bc] 43)) hb2)
                         obtain ⟨p10, hp10⟩ : ∃ p10, w1.heap.size = p10 := ⟨_, rfl⟩
                         rw [hp10] at HE2 ⊢
                         clear hb2 fp40 fp41 fp50 fp51 HN1 hp10
                         have fp40 : ∀ cs : Obj, (w2.alloc cs).cell? ⟨p4, 0, none⟩ = some (.int .u64 (La : Int)) := fun cs => cell_of_row _ p4 0 _ _ _ ((HN2.out.below ((Below.refl _ _).alloc (Nat.le_refl _) cs)).r4)
                         have fp41 : ∀ cs : Obj, (w2.alloc cs).cell? ⟨p4, 1, none⟩ = some (.int .u64 (Ba : Int)) := fun cs => cell_of_row _ p4 1 _ _ _ ((HN2.out.below ((Below.refl _ _).alloc (Nat.le_refl _) cs)).r4)
                         have fp50 : ∀ cs : Obj, (w2.alloc cs).cell? ⟨p5, 0, none⟩ = some (.int .u64 (L : Int)) := fun cs => cell_of_row _ p5 0 _ _ _ ((HN2.out.below ((Below.refl _ _).alloc (Nat.le_refl _) cs)).r5)
                         have fp51 : ∀ cs : Obj, (w2.alloc cs).cell? ⟨p5, 1, none⟩ = some (.int .u64 (B : Int)) := fun cs => cell_of_row _ p5 1 _ _ _ ((HN2.out.below ((Below.refl _ _).alloc (Nat.le_refl _) cs)).r5)
                         have HE3 := Lib.hid (fun cs : Obj => row_below HE2.out ((Below.refl w2.heap.size w2).alloc (Nat.le_refl _) cs))
                         have HN3 := Lib.hid (fun cs : Obj => HN2.out.below ((Below.refl w2.heap.size w2).alloc (Nat.le_refl _) cs))
                         clear HN2 HE2)
                      | (go_at_call 28; refine (HA.out _).mono ?_; rintro e w3 ⟨rfl, hb3⟩
                         have HN4 := Lib.hid ((HN3.out _).below hb3)
                         have HE4 := Lib.hid (row_below (HE3.out _) hb3)
                         clear hb3 fp40 fp41 fp50 fp51 HA HN3 HE3
                         have fp40 := cell_of_row w3 p4 0 _ _ _ HN4.out.r4
                         have fp41 := cell_of_row w3 p4 1 _ _ _ HN4.out.r4
                         have fp50 := cell_of_row w3 p5 0 _ _ _ HN4.out.r5
                         have fp51 := cell_of_row w3 p5 1 _ _ _ HN4.out.r5
                         skip)
                      | (go_at_call 28; refine (HB.out _).mono ?_; rintro e w4 ⟨rfl, hb4⟩
                         have HN5 := Lib.hid (HN4.out.below hb4)
                         have hE5 := row_below HE4.out hb4
                         clear hb4 fp40 fp41 fp50 fp51 HB HN4 HE4
                         have fp40 := cell_of_row w4 p4 0 _ _ _ HN5.out.r4
                         have fp41 := cell_of_row w4 p4 1 _ _ _ HN5.out.r4
                         have fp50 := cell_of_row w4 p5 0 _ _ _ HN5.out.r5
                         have fp51 := cell_of_row w4 p5 1 _ _ _ HN5.out.r5
                         have e0 := cell_of_row w4 p10 0 _ _ _ hE5
                         have e1 := cell_of_row w4 p10 1 _ _ _ hE5
                         have e2 := cell_of_row w4 p10 2 _ _ _ hE5
                         have e3 := cell_of_row w4 p10 3 _ _ _ hE5
                         have e4 := cell_of_row w4 p10 4 _ _ _ hE5
                         have e5 := cell_of_row w4 p10 5 _ _ _ hE5
                         have e6 := cell_of_row w4 p10 6 _ _ _ hE5
                         have e7 := cell_of_row w4 p10 7 _ _ _ hE5
                         have e8 := cell_of_row w4 p10 8 _ _ _ hE5
                         have e9 := cell_of_row w4 p10 9 _ _ _ hE5
                         clear hE5)
                      | (go_at_call 13; refine (HY.out _ HN5.out.bel).mono ?_; rintro e w5 ⟨rfl, hb5⟩
                         have HN6 := Lib.hid (HN5.out.below hb5)
                         clear hb5 fp40 fp41 fp50 fp51 HY HN5 e0 e1 e2 e3 e4 e5 e6 e7 e8 e9)
                      | fail)
                    go_roundw
                    case rel => exact ⟨i + 1, ix, by omega, by go_num, rfl, HK, HN6⟩
                    case measure => simp [intOf]; omega
                  · have HK := Lib.hid (HKP.out hy (by omega))
                    clear hcand HKP HTK HSK hc1
                    go_wp2_with (first
                      | (go_at_call 59; refine (HF.out _ HN.out.bel).mono ?_; rintro e w1 ⟨rfl, hb1⟩
                         have HN1 := Lib.hid (HN.out.below hb1)
                         clear hb1
                         have fp40 : ∀ cs : Obj, (w1.alloc cs).cell? ⟨p4, 0, none⟩ = some (.int .u64 (La : Int)) := fun cs => cell_of_row _ p4 0 _ _ _ ((HN1.out.below ((Below.refl _ _).alloc (Nat.le_refl _) cs)).r4)
                         have fp41 : ∀ cs : Obj, (w1.alloc cs).cell? ⟨p4, 1, none⟩ = some (.int .u64 (Ba : Int)) := fun cs => cell_of_row _ p4 1 _ _ _ ((HN1.out.below ((Below.refl _ _).alloc (Nat.le_refl _) cs)).r4)
                         have fp50 : ∀ cs : Obj, (w1.alloc cs).cell? ⟨p5, 0, none⟩ = some (.int .u64 (L : Int)) := fun cs => cell_of_row _ p5 0 _ _ _ ((HN1.out.below ((Below.refl _ _).alloc (Nat.le_refl _) cs)).r5)
                         have fp51 : ∀ cs : Obj, (w1.alloc cs).cell? ⟨p5, 1, none⟩ = some (.int .u64 (B : Int)) := fun cs => cell_of_row _ p5 1 _ _ _ ((HN1.out.below ((Below.refl _ _).alloc (Nat.le_refl _) cs)).r5)
                         skip)
                      | (go_at_call 29; refine (HSY.out _).mono ?_; rintro e w2 ⟨rfl, hb2⟩
                         have HN2 := Lib.hid ((HN1.out.below ((Below.refl _ _).alloc (Nat.le_refl _) (.cells #[.int .u64 (ix : Int), .int .u64 (tm : Int), .int .u64 (st : Int), .int .i64 kd, .int .u64 (cl : Int), .int .u64 (rq : Int), .int .u32 (fr : Int), .int .u32 (ct : Int), .string (str da), .slice A1 bn bc] 43))).below hb2)
                         have HE2 := Lib.hid (row_below (heap_alloc_new w1 (.cells #[.int .u64 (ix : Int), .int .u64 (tm : Int), .int .u64 (st : Int), .int .i64 kd, .int .u64 (cl : Int), .int .u64 (rq : Int), .int .u32 (fr : Int), .int .u32 (ct : Int), .string (str da), .slice A1 bn bc] 43)) hb2)
                         obtain ⟨p10, hp10⟩ : ∃ p10, w1.heap.size = p10 := ⟨_, rfl⟩
                         rw [hp10] at HE2 ⊢
                         clear hb2 fp40 fp41 fp50 fp51 HN1 hp10
                         have fp40 : ∀ cs : Obj, (w2.alloc cs).cell? ⟨p4, 0, none⟩ = some (.int .u64 (La : Int)) := fun cs => cell_of_row _ p4 0 _ _ _ ((HN2.out.below ((Below.refl _ _).alloc (Nat.le_refl _) cs)).r4)
                         have fp41 : ∀ cs : Obj, (w2.alloc cs).cell? ⟨p4, 1, none⟩ = some (.int .u64 (Ba : Int)) := fun cs => cell_of_row _ p4 1 _ _ _ ((HN2.out.below ((Below.refl _ _).alloc (Nat.le_refl _) cs)).r4)
                         have fp50 : ∀ cs : Obj, (w2.alloc cs).cell? ⟨p5, 0, none⟩ = some (.int .u64 (L : Int)) := fun cs => cell_of_row _ p5 0 _ _ _ ((HN2.out.below ((Below.refl _ _).alloc (Nat.le_refl _) cs)).r5)
                         have fp51 : ∀ cs : Obj, (w2.alloc cs).cell? ⟨p5, 1, none⟩ = some (.int .u64 (B : Int)) := fun cs => cell_of_row _ p5 1 _ _ _ ((HN2.out.below ((Below.refl _ _).alloc (Nat.le_refl _) cs)).r5)
                         have HE3 := Lib.hid (fun cs : Obj => row_below HE2.out ((Below.refl w2.heap.size w2).alloc (Nat.le_refl _) cs))
                         have HN3 := Lib.hid (fun cs : Obj => HN2.out.below ((Below.refl w2.heap.size w2).alloc (Nat.le_refl _) cs))
                         clear HN2 HE2)
                      | (go_at_call 28; refine (HA.out _).mono ?_; rintro e w3 ⟨rfl, hb3⟩
                         have HN4 := Lib.hid ((HN3.out _).below hb3)
                         have HE4 := Lib.hid (row_below (HE3.out _) hb3)
                         clear hb3 fp40 fp41 fp50 fp51 HA HN3 HE3
                         have fp40 := cell_of_row w3 p4 0 _ _ _ HN4.out.r4
                         have fp41 := cell_of_row w3 p4 1 _ _ _ HN4.out.r4
                         have fp50 := cell_of_row w3 p5 0 _ _ _ HN4.out.r5
                         have fp51 := cell_of_row w3 p5 1 _ _ _ HN4.out.r5
                         skip)
                      | (go_at_call 28; refine (HB.out _).mono ?_; rintro e w4 ⟨rfl, hb4⟩
                         have HN5 := Lib.hid (HN4.out.below hb4)
                         have hE5 := row_below HE4.out hb4
                         clear hb4 fp40 fp41 fp50 fp51 HB HN4 HE4
                         have fp40 := cell_of_row w4 p4 0 _ _ _ HN5.out.r4
                         have fp41 := cell_of_row w4 p4 1 _ _ _ HN5.out.r4
                         have fp50 := cell_of_row w4 p5 0 _ _ _ HN5.out.r5
                         have fp51 := cell_of_row w4 p5 1 _ _ _ HN5.out.r5
                         have e0 := cell_of_row w4 p10 0 _ _ _ hE5
                         have e1 := cell_of_row w4 p10 1 _ _ _ hE5
                         have e2 := cell_of_row w4 p10 2 _ _ _ hE5
                         have e3 := cell_of_row w4 p10 3 _ _ _ hE5
                         have e4 := cell_of_row w4 p10 4 _ _ _ hE5
                         have e5 := cell_of_row w4 p10 5 _ _ _ hE5
                         have e6 := cell_of_row w4 p10 6 _ _ _ hE5
                         have e7 := cell_of_row w4 p10 7 _ _ _ hE5
                         have e8 := cell_of_row w4 p10 8 _ _ _ hE5
                         have e9 := cell_of_row w4 p10 9 _ _ _ hE5
                         clear hE5)
                      | (go_at_call 13; refine (HY.out _ HN5.out.bel).mono ?_; rintro e w5 ⟨rfl, hb5⟩
                         have HN6 := Lib.hid (HN5.out.below hb5)
                         clear hb5 fp40 fp41 fp50 fp51 HY HN5 e0 e1 e2 e3 e4 e5 e6 e7 e8 e9)
                      | fail)
                    go_roundw
                    case rel => exact ⟨i + 1, y, by omega, by go_num, rfl, HK, HN6⟩
                    case measure => simp [intOf]; omega
            · have HK := Lib.hid (HSK.out (by rw [hcand]; simp))
              clear hcand HKP HTK HSK
              go_wp2_with (first
                | (go_at_call 59; refine (HF.out _ HN.out.bel).mono ?_; rintro e w1 ⟨rfl, hb1⟩
                   have HN1 := Lib.hid (HN.out.below hb1)
                   clear hb1
                   have fp40 : ∀ cs : Obj, (w1.alloc cs).cell? ⟨p4, 0, none⟩ = some (.int .u64 (La : Int)) := fun cs => cell_of_row _ p4 0 _ _ _ ((HN1.out.below ((Below.refl _ _).alloc (Nat.le_refl _) cs)).r4)
                   have fp41 : ∀ cs : Obj, (w1.alloc cs).cell? ⟨p4, 1, none⟩ = some (.int .u64 (Ba : Int)) := fun cs => cell_of_row _ p4 1 _ _ _ ((HN1.out.below ((Below.refl _ _).alloc (Nat.le_refl _) cs)).r4)
                   have fp50 : ∀ cs : Obj, (w1.alloc cs).cell? ⟨p5, 0, none⟩ = some (.int .u64 (L : Int)) := fun cs => cell_of_row _ p5 0 _ _ _ ((HN1.out.below ((Below.refl _ _).alloc (Nat.le_refl _) cs)).r5)
                   have fp51 : ∀ cs : Obj, (w1.alloc cs).cell? ⟨p5, 1, none⟩ = some (.int .u64 (B : Int)) := fun cs => cell_of_row _ p5 1 _ _ _ ((HN1.out.below ((Below.refl _ _).alloc (Nat.le_refl _) cs)).r5)
                   skip)
                | (go_at_call 29; refine (HSY.out _).mono ?_; rintro e w2 ⟨rfl, hb2⟩
                   have HN2 := Lib.hid ((HN1.out.below ((Below.refl _ _).alloc (Nat.le_refl _) (.cells #[.int .u64 (ix : Int), .int .u64 (tm : Int), .int .u64 (st : Int), .int .i64 kd, .int .u64 (cl : Int), .int .u64 (rq : Int), .int .u32 (fr : Int), .int .u32 (ct : Int), .string (str da), .slice A1 bn bc] 43))).below hb2)
                   have HE2 := Lib.hid (row_below (heap_alloc_new w1 (.cells #[.int .u64 (ix : Int), .int .u64 (tm : Int), .int .u64 (st : Int), .int .i64 kd, .int .u64 (cl : Int), .int .u64 (rq : Int), .int .u32 (fr : Int), .int .u32 (ct : Int), .string (str da), .slice A1 bn bc] 43)) hb2)
                   obtain ⟨p10, hp10⟩ : ∃ p10, w1.heap.size = p10 := ⟨_, rfl⟩
                   rw [hp10] at HE2 ⊢
                   clear hb2 fp40 fp41 fp50 fp51 HN1 hp10
                   have fp40 : ∀ cs : Obj, (w2.alloc cs).cell? ⟨p4, 0, none⟩ = some (.int .u64 (La : Int)) := fun cs => cell_of_row _ p4 0 _ _ _ ((HN2.out.below ((Below.refl _ _).alloc (Nat.le_refl _) cs)).r4)
                   have fp41 : ∀ cs : Obj, (w2.alloc cs).cell? ⟨p4, 1, none⟩ = some (.int .u64 (Ba : Int)) := fun cs => cell_of_row _ p4 1 _ _ _ ((HN2.out.below ((Below.refl _ _).alloc (Nat.le_refl _) cs)).r4)
                   have fp50 : ∀ cs : Obj, (w2.alloc cs).cell? ⟨p5, 0, none⟩ = some (.int .u64 (L : Int)) := fun cs => cell_of_row _ p5 0 _ _ _ ((HN2.out.below ((Below.refl _ _).alloc (Nat.le_refl _) cs)).r5)
                   have fp51 : ∀ cs : Obj, (w2.alloc cs).cell? ⟨p5, 1, none⟩ = some (.int .u64 (B : Int)) := fun cs => cell_of_row _ p5 1 _ _ _ ((HN2.out.below ((Below.refl _ _).alloc (Nat.le_refl _) cs)).r5)
                   have HE3 := Lib.hid (fun cs : Obj => row_below HE2.out ((Below.refl w2.heap.size w2).alloc (Nat.le_refl _) cs))
                   have HN3 := Lib.hid (fun cs : Obj => HN2.out.below ((Below.refl w2.heap.size w2).alloc (Nat.le_refl _) cs))
                   clear HN2 HE2)
                | (go_at_call 28; refine (HA.out _).mono ?_; rintro e w3 ⟨rfl, hb3⟩
                   have HN4 := Lib.hid ((HN3.out _).below hb3)
                   have HE4 := Lib.hid (row_below (HE3.out _) hb3)
                   clear hb3 fp40 fp41 fp50 fp51 HA HN3 HE3
                   have fp40 := cell_of_row w3 p4 0 _ _ _ HN4.out.r4
                   have fp41 := cell_of_row w3 p4 1 _ _ _ HN4.out.r4
                   have fp50 := cell_of_row w3 p5 0 _ _ _ HN4.out.r5
                   have fp51 := cell_of_row w3 p5 1 _ _ _ HN4.out.r5
                   skip)
                | (go_at_call 28; refine (HB.out _).mono ?_; rintro e w4 ⟨rfl, hb4⟩
                   have HN5 := Lib.hid (HN4.out.below hb4)
                   have hE5 := row_below HE4.out hb4
                   clear hb4 fp40 fp41 fp50 fp51 HB HN4 HE4
                   have fp40 := cell_of_row w4 p4 0 _ _ _ HN5.out.r4
                   have fp41 := cell_of_row w4 p4 1 _ _ _ HN5.out.r4
                   have fp50 := cell_of_row w4 p5 0 _ _ _ HN5.out.r5
                   have fp51 := cell_of_row w4 p5 1 _ _ _ HN5.out.r5
                   have e0 := cell_of_row w4 p10 0 _ _ _ hE5
                   have e1 := cell_of_row w4 p10 1 _ _ _ hE5
                   have e2 := cell_of_row w4 p10 2 _ _ _ hE5
                   have e3 := cell_of_row w4 p10 3 _ _ _ hE5
                   have e4 := cell_of_row w4 p10 4 _ _ _ hE5
                   have e5 := cell_of_row w4 p10 5 _ _ _ hE5
                   have e6 := cell_of_row w4 p10 6 _ _ _ hE5
                   have e7 := cell_of_row w4 p10 7 _ _ _ hE5
                   have e8 := cell_of_row w4 p10 8 _ _ _ hE5
                   have e9 := cell_of_row w4 p10 9 _ _ _ hE5
                   clear hE5)
                | (go_at_call 13; refine (HY.out _ HN5.out.bel).mono ?_; rintro e w5 ⟨rfl, hb5⟩
                   have HN6 := Lib.hid (HN5.out.below hb5)
                   clear hb5 fp40 fp41 fp50 fp51 HY HN5 e0 e1 e2 e3 e4 e5 e6 e7 e8 e9)
                | fail)
              go_roundw
              case rel => exact ⟨i + 1, y, by omega, by go_num, rfl, HK, HN5⟩
              case measure => simp [intOf]; omega
        · have HSN := Lib.hid (HSN0 hr)
          rw [decide_eq_false hr] at hcand
          have HK := Lib.hid (HSK.out (by rw [hcand]; simp))
          clear HSY0 HSN0 hlow hr hcand HKP HTK HSK
          cases ha
          · skip
            go_wp2_with (first
              | (go_at_call 59; refine (HF.out _ HN.out.bel).mono ?_; rintro e w1 ⟨rfl, hb1⟩
                 have HN1 := Lib.hid (HN.out.below hb1)
                 clear hb1
                 have fp40 : ∀ cs : Obj, (w1.alloc cs).cell? ⟨p4, 0, none⟩ = some (.int .u64 (La : Int)) := fun cs => cell_of_row _ p4 0 _ _ _ ((HN1.out.below ((Below.refl _ _).alloc (Nat.le_refl _) cs)).r4)
                 have fp41 : ∀ cs : Obj, (w1.alloc cs).cell? ⟨p4, 1, none⟩ = some (.int .u64 (Ba : Int)) := fun cs => cell_of_row _ p4 1 _ _ _ ((HN1.out.below ((Below.refl _ _).alloc (Nat.le_refl _) cs)).r4)
                 have fp50 : ∀ cs : Obj, (w1.alloc cs).cell? ⟨p5, 0, none⟩ = some (.int .u64 (L : Int)) := fun cs => cell_of_row _ p5 0 _ _ _ ((HN1.out.below ((Below.refl _ _).alloc (Nat.le_refl _) cs)).r5)
                 have fp51 : ∀ cs : Obj, (w1.alloc cs).cell? ⟨p5, 1, none⟩ = some (.int .u64 (B : Int)) := fun cs => cell_of_row _ p5 1 _ _ _ ((HN1.out.below ((Below.refl _ _).alloc (Nat.le_refl _) cs)).r5)
                 skip)
              | (go_at_call 29; refine (HSN.out _).mono ?_; rintro e w2 ⟨rfl, hb2⟩
                 have HN2 := Lib.hid ((HN1.out.below ((Below.refl _ _).alloc (Nat.le_refl _) (.cells #[.int .u64 (ix : Int), .int .u64 (tm : Int), .int .u64 (st : Int), .int .i64 kd, .int .u64 (cl : Int), .int .u64 (rq : Int), .int .u32 (fr : Int), .int .u32 (ct : Int), .string (str da), .slice A1 bn bc] 43))).below hb2)
                 have HE2 := Lib.hid (row_below (heap_alloc_new w1 (.cells #[.int .u64 (ix : Int), .int .u64 (tm : Int), .int .u64 (st : Int), .int .i64 kd, .int .u64 (cl : Int), .int .u64 (rq : Int), .int .u32 (fr : Int), .int .u32 (ct : Int), .string (str da), .slice A1 bn bc] 43)) hb2)
                 obtain ⟨p10, hp10⟩ : ∃ p10, w1.heap.size = p10 := ⟨_, rfl⟩
                 rw [hp10] at HE2 ⊢
                 clear hb2 fp40 fp41 fp50 fp51 HN1 hp10
                 have fp40 : ∀ cs : Obj, (w2.alloc cs).cell? ⟨p4, 0, none⟩ = some (.int .u64 (La : Int)) := fun cs => cell_of_row _ p4 0 _ _ _ ((HN2.out.below ((Below.refl _ _).alloc (Nat.le_refl _) cs)).r4)
                 have fp41 : ∀ cs : Obj, (w2.alloc cs).cell? ⟨p4, 1, none⟩ = some (.int .u64 (Ba : Int)) := fun cs => cell_of_row _ p4 1 _ _ _ ((HN2.out.below ((Below.refl _ _).alloc (Nat.le_refl _) cs)).r4)
                 have fp50 : ∀ cs : Obj, (w2.alloc cs).cell? ⟨p5, 0, none⟩ = some (.int .u64 (L : Int)) := fun cs => cell_of_row _ p5 0 _ _ _ ((HN2.out.below ((Below.refl _ _).alloc (Nat.le_refl _) cs)).r5)
                 have fp51 : ∀ cs : Obj, (w2.alloc cs).cell? ⟨p5, 1, none⟩ = some (.int .u64 (B : Int)) := fun cs => cell_of_row _ p5 1 _ _ _ ((HN2.out.below ((Below.refl _ _).alloc (Nat.le_refl _) cs)).r5)
                 have HE3 := Lib.hid (fun cs : Obj => row_below HE2.out ((Below.refl w2.heap.size w2).alloc (Nat.le_refl _) cs))
                 have HN3 := Lib.hid (fun cs : Obj => HN2.out.below ((Below.refl w2.heap.size w2).alloc (Nat.le_refl _) cs))
                 clear HN2 HE2)
              | (go_at_call 28; refine (HA.out _).mono ?_; rintro e w3 ⟨rfl, hb3⟩
                 have HN4 := Lib.hid ((HN3.out _).below hb3)
                 have HE4 := Lib.hid (row_below (HE3.out _) hb3)
                 clear hb3 fp40 fp41 fp50 fp51 HA HN3 HE3
                 have fp40 := cell_of_row w3 p4 0 _ _ _ HN4.out.r4
                 have fp41 := cell_of_row w3 p4 1 _ _ _ HN4.out.r4
                 have fp50 := cell_of_row w3 p5 0 _ _ _ HN4.out.r5
                 have fp51 := cell_of_row w3 p5 1 _ _ _ HN4.out.r5
                 skip)
              | (go_at_call 28; refine (HB.out _).mono ?_; rintro e w4 ⟨rfl, hb4⟩
                 have HN5 := Lib.hid (HN4.out.below hb4)
                 have hE5 := row_below HE4.out hb4
                 clear hb4 fp40 fp41 fp50 fp51 HB HN4 HE4
                 have fp40 := cell_of_row w4 p4 0 _ _ _ HN5.out.r4
                 have fp41 := cell_of_row w4 p4 1 _ _ _ HN5.out.r4
                 have fp50 := cell_of_row w4 p5 0 _ _ _ HN5.out.r5
                 have fp51 := cell_of_row w4 p5 1 _ _ _ HN5.out.r5
                 have e0 := cell_of_row w4 p10 0 _ _ _ hE5
                 have e1 := cell_of_row w4 p10 1 _ _ _ hE5
                 have e2 := cell_of_row w4 p10 2 _ _ _ hE5
                 have e3 := cell_of_row w4 p10 3 _ _ _ hE5
                 have e4 := cell_of_row w4 p10 4 _ _ _ hE5
                 have e5 := cell_of_row w4 p10 5 _ _ _ hE5
                 have e6 := cell_of_row w4 p10 6 _ _ _ hE5
                 have e7 := cell_of_row w4 p10 7 _ _ _ hE5
                 have e8 := cell_of_row w4 p10 8 _ _ _ hE5
                 have e9 := cell_of_row w4 p10 9 _ _ _ hE5
                 clear hE5)
              | (go_at_call 13; refine (HY.out _ HN5.out.bel).mono ?_; rintro e w5 ⟨rfl, hb5⟩
                 have HN6 := Lib.hid (HN5.out.below hb5)
                 clear hb5 fp40 fp41 fp50 fp51 HY HN5 e0 e1 e2 e3 e4 e5 e6 e7 e8 e9)
              | fail)
            go_roundw
            case rel => exact ⟨i + 1, y, by omega, by go_num, rfl, HK, HN4⟩
            case measure => simp [intOf]; omega
          · cases hb
            · skip
              go_wp2_with (first
                | (go_at_call 59; refine (HF.out _ HN.out.bel).mono ?_; rintro e w1 ⟨rfl, hb1⟩
                   have HN1 := Lib.hid (HN.out.below hb1)
                   clear hb1
                   have fp40 : ∀ cs : Obj, (w1.alloc cs).cell? ⟨p4, 0, none⟩ = some (.int .u64 (La : Int)) := fun cs => cell_of_row _ p4 0 _ _ _ ((HN1.out.below ((Below.refl _ _).alloc (Nat.le_refl _) cs)).r4)
                   have fp41 : ∀ cs : Obj, (w1.alloc cs).cell? ⟨p4, 1, none⟩ = some (.int .u64 (Ba : Int)) := fun cs => cell_of_row _ p4 1 _ _ _ ((HN1.out.below ((Below.refl _ _).alloc (Nat.le_refl _) cs)).r4)
                   have fp50 : ∀ cs : Obj, (w1.alloc cs).cell? ⟨p5, 0, none⟩ = some (.int .u64 (L : Int)) := fun cs => cell_of_row _ p5 0 _ _ _ ((HN1.out.below ((Below.refl _ _).alloc (Nat.le_refl _) cs)).r5)
                   have fp51 : ∀ cs : Obj, (w1.alloc cs).cell? ⟨p5, 1, none⟩ = some (.int .u64 (B : Int)) := fun cs => cell_of_row _ p5 1 _ _ _ ((HN1.out.below ((Below.refl _ _).alloc (Nat.le_refl _) cs)).r5)
                   skip)
                | (go_at_call 29; refine (HSN.out _).mono ?_; rintro e w2 ⟨rfl, hb2⟩
                   have HN2 := Lib.hid ((HN1.out.below ((Below.refl _ _).alloc (Nat.le_refl _) (.cells #[.int .u64 (ix : Int), .int .u64 (tm : Int), .int .u64 (st : Int), .int .i64 kd, .int .u64 (cl : Int), .int .u64 (rq : Int), .int .u32 (fr : Int), .int .u32 (ct : Int), .string (str da), .slice A1 bn bc] 43))).below hb2)
                   have HE2 := Lib.hid (row_below (heap_alloc_new w1 (.cells #[.int .u64 (ix : Int), .int .u64 (tm : Int), .int .u64 (st : Int), .int .i64 kd, .int .u64 (cl : Int), .int .u64 (rq : Int), .int .u32 (fr : Int), .int .u32 (ct : Int), .string (str da), .slice A1 bn bc] 43)) hb2)
                   obtain ⟨p10, hp10⟩ : ∃ p10, w1.heap.size = p10 := ⟨_, rfl⟩
                   rw [hp10] at HE2 ⊢
                   clear hb2 fp40 fp41 fp50 fp51 HN1 hp10
                   have fp40 : ∀ cs : Obj, (w2.alloc cs).cell? ⟨p4, 0, none⟩ = some (.int .u64 (La : Int)) := fun cs => cell_of_row _ p4 0 _ _ _ ((HN2.out.below ((Below.refl _ _).alloc (Nat.le_refl _) cs)).r4)
                   have fp41 : ∀ cs : Obj, (w2.alloc cs).cell? ⟨p4, 1, none⟩ = some (.int .u64 (Ba : Int)) := fun cs => cell_of_row _ p4 1 _ _ _ ((HN2.out.below ((Below.refl _ _).alloc (Nat.le_refl _) cs)).r4)
                   have fp50 : ∀ cs : Obj, (w2.alloc cs).cell? ⟨p5, 0, none⟩ = some (.int .u64 (L : Int)) := fun cs => cell_of_row _ p5 0 _ _ _ ((HN2.out.below ((Below.refl _ _).alloc (Nat.le_refl _) cs)).r5)
                   have fp51 : ∀ cs : Obj, (w2.alloc cs).cell? ⟨p5, 1, none⟩ = some (.int .u64 (B : Int)) := fun cs => cell_of_row _ p5 1 _ _ _ ((HN2.out.below ((Below.refl _ _).alloc (Nat.le_refl _) cs)).r5)
                   have HE3 := Lib.hid (fun cs : Obj => row_below HE2.out ((Below.refl w2.heap.size w2).alloc (Nat.le_refl _) cs))
                   have HN3 := Lib.hid (fun cs : Obj => HN2.out.below ((Below.refl w2.heap.size w2).alloc (Nat.le_refl _) cs))
                   clear HN2 HE2)
                | (go_at_call 28; refine (HA.out _).mono ?_; rintro e w3 ⟨rfl, hb3⟩
                   have HN4 := Lib.hid ((HN3.out _).below hb3)
                   have HE4 := Lib.hid (row_below (HE3.out _) hb3)
                   clear hb3 fp40 fp41 fp50 fp51 HA HN3 HE3
                   have fp40 := cell_of_row w3 p4 0 _ _ _ HN4.out.r4
                   have fp41 := cell_of_row w3 p4 1 _ _ _ HN4.out.r4
                   have fp50 := cell_of_row w3 p5 0 _ _ _ HN4.out.r5
                   have fp51 := cell_of_row w3 p5 1 _ _ _ HN4.out.r5
                   skip)
                | (go_at_call 28; refine (HB.out _).mono ?_; rintro e w4 ⟨rfl, hb4⟩
                   have HN5 := Lib.hid (HN4.out.below hb4)
                   have hE5 := row_below HE4.out hb4
                   clear hb4 fp40 fp41 fp50 fp51 HB HN4 HE4
                   have fp40 := cell_of_row w4 p4 0 _ _ _ HN5.out.r4
                   have fp41 := cell_of_row w4 p4 1 _ _ _ HN5.out.r4
                   have fp50 := cell_of_row w4 p5 0 _ _ _ HN5.out.r5
                   have fp51 := cell_of_row w4 p5 1 _ _ _ HN5.out.r5
                   have e0 := cell_of_row w4 p10 0 _ _ _ hE5
                   have e1 := cell_of_row w4 p10 1 _ _ _ hE5
                   have e2 := cell_of_row w4 p10 2 _ _ _ hE5
                   have e3 := cell_of_row w4 p10 3 _ _ _ hE5
                   have e4 := cell_of_row w4 p10 4 _ _ _ hE5
                   have e5 := cell_of_row w4 p10 5 _ _ _ hE5
                   have e6 := cell_of_row w4 p10 6 _ _ _ hE5
                   have e7 := cell_of_row w4 p10 7 _ _ _ hE5
                   have e8 := cell_of_row w4 p10 8 _ _ _ hE5
                   have e9 := cell_of_row w4 p10 9 _ _ _ hE5
                   clear hE5)
                | (go_at_call 13; refine (HY.out _ HN5.out.bel).mono ?_; rintro e w5 ⟨rfl, hb5⟩
                   have HN6 := Lib.hid (HN5.out.below hb5)
                   clear hb5 fp40 fp41 fp50 fp51 HY HN5 e0 e1 e2 e3 e4 e5 e6 e7 e8 e9)
                | fail)
              go_roundw
              case rel => exact ⟨i + 1, y, by omega, by go_num, rfl, HK, HN5⟩
              case measure => simp [intOf]; omega
            · skip
              go_wp2_with (first
                | (go_at_call 59; refine (HF.out _ HN.out.bel).mono ?_; rintro e w1 ⟨rfl, hb1⟩
                   have HN1 := Lib.hid (HN.out.below hb1)
                   clear hb1
                   have fp40 : ∀ cs : Obj, (w1.alloc cs).cell? ⟨p4, 0, none⟩ = some (.int .u64 (La : Int)) := fun cs => cell_of_row _ p4 0 _ _ _ ((HN1.out.below ((Below.refl _ _).alloc (Nat.le_refl _) cs)).r4)
                   have fp41 : ∀ cs : Obj, (w1.alloc cs).cell? ⟨p4, 1, none⟩ = some (.int .u64 (Ba : Int)) := fun cs => cell_of_row _ p4 1 _ _ _ ((HN1.out.below ((Below.refl _ _).alloc (Nat.le_refl _) cs)).r4)
                   have fp50 : ∀ cs : Obj, (w1.alloc cs).cell? ⟨p5, 0, none⟩ = some (.int .u64 (L : Int)) := fun cs => cell_of_row _ p5 0 _ _ _ ((HN1.out.below ((Below.refl _ _).alloc (Nat.le_refl _) cs)).r5)
                   have fp51 : ∀ cs : Obj, (w1.alloc cs).cell? ⟨p5, 1, none⟩ = some (.int .u64 (B : Int)) := fun cs => cell_of_row _ p5 1 _ _ _ ((HN1.out.below ((Below.refl _ _).alloc (Nat.le_refl _) cs)).r5)
                   skip)
                | (go_at_call 29; refine (HSN.out _).mono ?_; rintro e w2 ⟨rfl, hb2⟩
                   have HN2 := Lib.hid ((HN1.out.below ((Below.refl _ _).alloc (Nat.le_refl _) (.cells #[.int .u64 (ix : Int), .int .u64 (tm : Int), .int .u64 (st : Int), .int .i64 kd, .int .u64 (cl : Int), .int .u64 (rq : Int), .int .u32 (fr : Int), .int .u32 (ct : Int), .string (str da), .slice A1 bn bc] 43))).below hb2)
                   have HE2 := Lib.hid (row_below (heap_alloc_new w1 (.cells #[.int .u64 (ix : Int), .int .u64 (tm : Int), .int .u64 (st : Int), .int .i64 kd, .int .u64 (cl : Int), .int .u64 (rq : Int), .int .u32 (fr : Int), .int .u32 (ct : Int), .string (str da), .slice A1 bn bc] 43)) hb2)
                   obtain ⟨p10, hp10⟩ : ∃ p10, w1.heap.size = p10 := ⟨_, rfl⟩
                   rw [hp10] at HE2 ⊢
                   clear hb2 fp40 fp41 fp50 fp51 HN1 hp10
                   have fp40 : ∀ cs : Obj, (w2.alloc cs).cell? ⟨p4, 0, none⟩ = some (.int .u64 (La : Int)) := fun cs => cell_of_row _ p4 0 _ _ _ ((HN2.out.below ((Below.refl _ _).alloc (Nat.le_refl _) cs)).r4)
                   have fp41 : ∀ cs : Obj, (w2.alloc cs).cell? ⟨p4, 1, none⟩ = some (.int .u64 (Ba : Int)) := fun cs => cell_of_row _ p4 1 _ _ _ ((HN2.out.below ((Below.refl _ _).alloc (Nat.le_refl _) cs)).r4)
                   have fp50 : ∀ cs : Obj, (w2.alloc cs).cell? ⟨p5, 0, none⟩ = some (.int .u64 (L : Int)) := fun cs => cell_of_row _ p5 0 _ _ _ ((HN2.out.below ((Below.refl _ _).alloc (Nat.le_refl _) cs)).r5)
                   have fp51 : ∀ cs : Obj, (w2.alloc cs).cell? ⟨p5, 1, none⟩ = some (.int .u64 (B : Int)) := fun cs => cell_of_row _ p5 1 _ _ _ ((HN2.out.below ((Below.refl _ _).alloc (Nat.le_refl _) cs)).r5)
                   have HE3 := Lib.hid (fun cs : Obj => row_below HE2.out ((Below.refl w2.heap.size w2).alloc (Nat.le_refl _) cs))
                   have HN3 := Lib.hid (fun cs : Obj => HN2.out.below ((Below.refl w2.heap.size w2).alloc (Nat.le_refl _) cs))
                   clear HN2 HE2)
                | (go_at_call 28; refine (HA.out _).mono ?_; rintro e w3 ⟨rfl, hb3⟩
                   have HN4 := Lib.hid ((HN3.out _).below hb3)
                   have HE4 := Lib.hid (row_below (HE3.out _) hb3)
                   clear hb3 fp40 fp41 fp50 fp51 HA HN3 HE3
                   have fp40 := cell_of_row w3 p4 0 _ _ _ HN4.out.r4
                   have fp41 := cell_of_row w3 p4 1 _ _ _ HN4.out.r4
                   have fp50 := cell_of_row w3 p5 0 _ _ _ HN4.out.r5
                   have fp51 := cell_of_row w3 p5 1 _ _ _ HN4.out.r5
                   skip)
                | (go_at_call 28; refine (HB.out _).mono ?_; rintro e w4 ⟨rfl, hb4⟩
                   have HN5 := Lib.hid (HN4.out.below hb4)
                   have hE5 := row_below HE4.out hb4
                   clear hb4 fp40 fp41 fp50 fp51 HB HN4 HE4
                   have fp40 := cell_of_row w4 p4 0 _ _ _ HN5.out.r4
                   have fp41 := cell_of_row w4 p4 1 _ _ _ HN5.out.r4
                   have fp50 := cell_of_row w4 p5 0 _ _ _ HN5.out.r5
                   have fp51 := cell_of_row w4 p5 1 _ _ _ HN5.out.r5
                   have e0 := cell_of_row w4 p10 0 _ _ _ hE5
                   have e1 := cell_of_row w4 p10 1 _ _ _ hE5
                   have e2 := cell_of_row w4 p10 2 _ _ _ hE5
                   have e3 := cell_of_row w4 p10 3 _ _ _ hE5
                   have e4 := cell_of_row w4 p10 4 _ _ _ hE5
                   have e5 := cell_of_row w4 p10 5 _ _ _ hE5
                   have e6 := cell_of_row w4 p10 6 _ _ _ hE5
                   have e7 := cell_of_row w4 p10 7 _ _ _ hE5
                   have e8 := cell_of_row w4 p10 8 _ _ _ hE5
                   have e9 := cell_of_row w4 p10 9 _ _ _ hE5
                   clear hE5)
                | (go_at_call 13; refine (HY.out _ HN5.out.bel).mono ?_; rintro e w5 ⟨rfl, hb5⟩
                   have HN6 := Lib.hid (HN5.out.below hb5)
                   clear hb5 fp40 fp41 fp50 fp51 HY HN5 e0 e1 e2 e3 e4 e5 e6 e7 e8 e9)
                | fail)
              go_roundw
              case rel => exact ⟨i + 1, y, by omega, by go_num, rfl, HK, HN5⟩
              case measure => simp [intOf]; omega
    · obtain rfl : i = n := by omega
      go_wp2
      go_ret
      have := HT.out
      rw [show i = es.length from HH.out.len.symm] at this
      exact ⟨⟨y, rfl, this.all⟩, HN.out.bel⟩
end Go.Proofs.YtgejmeankppmhaaDoor
