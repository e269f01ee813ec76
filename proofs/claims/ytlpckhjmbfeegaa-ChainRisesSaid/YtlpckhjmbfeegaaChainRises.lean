/- ChainRises: terms never fall along a chain, whatever is added and taken. -/
import Derived.Test.YtlpckhjmbfeegaaCt
namespace Go.Proofs.Ytlpckhjmbfeegaa
open Go.RowKit
set_option maxRecDepth 20000
theorem Beside.arg {w W : World} {g : Nat} {v : Value} {t : Cv} {A : Option Addr} {n c : Nat} {l : List It} (h : Rd w w.heap.size 3 A n c (its l)) (hl : l.length = n) (hf : n ≤ 5000) (hb : Below w.heap.size w W) (hc : Ck W w.heap.size g v t) : Beside W g v A n c l := by
  refine ⟨(h.below hb).more hb.size, hl, hf, fun hn b o hA hF => ?_⟩
  obtain ⟨b', o', hA', hb', _⟩ := h.2.2.2 hn
  rw [hA] at hA'
  cases hA'
  have := (hc.foot hF).1
  omega
/-- A chain of the law's own, behind i calls. -/
structure Own (w W : World) (g : Nat) (t : Cv) (i : Nat) : Prop where
  ck : ∃ v, Ck W w.heap.size g v t
  bel : Below w.heap.size w W
  ris : t.rises
  last : t.last ≤ 4611686018427387904 + 200 * i
theorem Own.below {w W W' : World} {g i : Nat} {t : Cv} (h : Own w W g t i) (hb : Below W.heap.size W W') : Own w W' g t i := by
  obtain ⟨v, hv⟩ := h.ck
  exact ⟨⟨v, hv.below hb⟩, h.bel.trans (hb.mono h.bel.size), h.ris, h.last⟩
theorem Ck.low {W : World} {B B' g : Nat} {v : Value} {t : Cv} (h : Ck W B g v t) (hB : B' ≤ B) : Ck W B' g v t := ⟨h.row, ownsRow_low h.own hB, Nat.le_trans hB h.lo, h.room, h.bound⟩
theorem own_new {w w1 w2 : World} {b o : Nat} (hb1 : Below w.heap.size w w1) (hc : Ck w2 w1.heap.size w1.heap.size (.slice none 0 0) ⟨b, o, []⟩) (hb2 : Below w1.heap.size w1 w2) (hb : b ≤ 4611686018427387904) : Own w w2 w1.heap.size ⟨b, o, []⟩ 0 :=
  ⟨⟨_, hc.low hb1.size⟩, hb1.trans (hb2.mono hb1.size), rfl, by show b + 0 ≤ _; omega⟩
theorem Own.far {w W : World} {g i : Nat} {t : Cv} (h : Own w W g t i) (hi : i ≤ 40) : t.last + 100 < 9000000000000000000 := by have := h.last; omega
theorem Own.next {w W W' : World} {g i : Nat} {t t' : Cv} {v : Value} (h : Own w W g t i) (hv : Ck W w.heap.size g v t) (m : Mv W w.heap.size g v t' W') (hr : t'.rises) {j : Nat} (hl : t'.last ≤ 4611686018427387904 + 200 * j) : Own w W' g t' j := by
  obtain ⟨v', h1, h2, _⟩ := m
  exact ⟨⟨v', h1⟩, h.bel.trans (hv.keepsB h2 h.bel.size), hr, hl⟩
set_option maxHeartbeats 8000000 in
theorem rises_own {w : World} (base term : Nat) (hbs : base ≤ 4611686018427387904) {A : Option Addr} {n c : Nat} {os : List O29} (h : Slc O29.lay w A n c os) :
    Calls Try.prog 5 #[.int .u64 (base : Int), .int .u64 (term : Int), .slice A n c] w fun e w' => e = .returned (.bool true) ∧ Below w.heap.size w w' := by
  have HH := Lib.hid h
  have HLG := Lib.hid (light29 h)
  have HLV := Lib.hid lives29
  have HN := Lib.hid (fun W => cnew_any base term W hbs)
  have hcap := h.rd.2.1
  have hnc := h.rd.1
  have hnm : (n : Int) ≤ 9223372036854775807 := by unfold maxLen at hcap; omega
  have HLEN := Lib.hid h.len
  unfold LAns at HLG
  have HBS := Lib.hid hbs
  clear h hcap hnc hbs
  go_enter Try.func5, Try.ntmps5
  go_wp2_with (first
    | (go_at_call 9; refine HLG.out.mono ?_; rintro e w1 ⟨b1, rfl, hf1, hb1⟩; have HB1 := Lib.hid hb1; have HF1 := Lib.hid hf1; clear hb1 hf1; cases b1)
    | (go_at_call 10; refine (HLV.out _).mono ?_; rintro e w2 ⟨rfl, hb2⟩)
    | (go_at_call 11; refine (HN.out _).mono ?_; rintro e w2 ⟨rfl, hc2, hb2⟩
       have HO2 := Lib.hid (own_new HB1.out hc2 hb2 HBS.out)
       clear hc2 hb2)
    | fail)
  · go_ret
    exact ⟨rfl, HB1.out.trans (hb2.mono HB1.out.size)⟩
  obtain ⟨g, hg⟩ : ∃ g, g = w1.heap.size := ⟨_, rfl⟩
  rw [← hg] at HO2 ⊢
  have HFEW := Lib.hid (HF1.out (by first | rfl | trivial))
  clear hg HF1
  go_loopw [23] (fun ir wr => ∃ (i : Nat) (t : Cv), i ≤ n ∧ ir = .int .i64 (i : Int) ∧ Hid (Own w wr g t i)) (fun ir _ => n - (intOf ir).toNat)
  case atStart => exact ⟨0, _, Nat.zero_le _, rfl, HO2⟩
  case round =>
    obtain ⟨i, t, hi, rfl, HO⟩ := hrel
    by_cases hlt : i < n
    · obtain ⟨o, ho⟩ : ∃ o, os[i]? = some o := ⟨_, List.getElem?_eq_getElem (by have := HLEN.out; omega)⟩
      obtain ⟨b, off, rfl, k0, k1, k2, k3⟩ := op_cells HH.out ho HO.out.bel
      have hrds := (HH.out.reads o (List.mem_of_getElem? ho))
      have h50 := HFEW.out.2 o (List.mem_of_getElem? ho)
      have HI40 := Lib.hid (show i < 40 by have := HFEW.out.1; have := HLEN.out; omega)
      have hlti : (i : Int) < (n : Int) := by omega
      have HLT := Lib.hid hlti
      have HRD := Lib.hid hrds.2.2.1
      have HOL := Lib.hid hrds.2.2.2
      have H50 := Lib.hid h50
      clear ho hrds h50
      obtain ⟨kd, pv, tm, oA, on, oc, ol⟩ := o
      dsimp only at *
      obtain ⟨v, hv⟩ := HO.out.ck
      obtain ⟨W1, hW1⟩ : ∃ W1, W1 = wr.alloc (.cells #[.int .i64 kd, .int .u64 (pv : Int), .int .u64 (tm : Int), .slice oA on oc] 33) := ⟨_, rfl⟩
      have hr1 := heap_alloc_new wr (.cells #[.int .i64 kd, .int .u64 (pv : Int), .int .u64 (tm : Int), .slice oA on oc] 33)
      have hb1 := (Below.refl wr.heap.size wr).alloc (Nat.le_refl _) (.cells #[.int .i64 kd, .int .u64 (pv : Int), .int .u64 (tm : Int), .slice oA on oc] 33)
      rw [← hW1] at hr1 hb1
      have ho1 := HO.out.below hb1
      have hv1 := hv.below hb1
      have hlast := ho1.far (Nat.le_of_lt HI40.out)
      have hbe := Beside.arg HRD.out HOL.out (by have := H50.out; omega) ho1.bel hv1
      have hTK := take_any hv1 ho1.bel.size pv tm hbe (by have := H50.out; omega)
      have HTK := Lib.hid hTK
      have HR1 := Lib.hid hr1
      have HO1 := Lib.hid ho1
      have HV1 := Lib.hid hv1
      have HLT2 := Lib.hid hv.lt
      have HSZ := Lib.hid (show W1.heap.size = wr.heap.size + 1 by rw [hW1]; simp)
      have HFT := Lib.hid (fun j (hj : Foot g v j) => (hv.foot hj).2)
      unfold Takes at HTK
      generalize (if t.takes pv tm ol = true then t.takeTo pv ol else 0) = kT at HTK
      generalize t.takes pv tm ol = bT at HTK
      clear hv hr1 hb1 ho1 hv1 hlast hbe hTK
      by_cases hk : kd = 0
      · subst hk
        go_wp2_with (first
          | (go_at_call 16; rw [← hW1]; refine HTK.out.mono ?_; rintro e w3 ⟨rfl, hm3⟩
             obtain ⟨t1, ht1⟩ : ∃ t1, t1 = t.take pv tm ol := ⟨_, rfl⟩
             rw [← ht1] at hm3
             have ho3 : Own w w3 g t1 (i + 1) := HO1.out.next HV1.out hm3 (by rw [ht1]; exact take_rises HO1.out.ris) (by rw [ht1]; have := take_last (t := t) (prev := pv) (term := tm) (l := ol); have := HO1.out.last; have := HOL.out; have := H50.out; omega)
             have HL3 := Lib.hid (show t1.last ≤ 4611686018427387904 + 200 * i + 50 by rw [ht1]; have := take_last (t := t) (prev := pv) (term := tm) (l := ol); have := HO1.out.last; have := HOL.out; have := H50.out; omega)
             have hk3 : Keeps (Foot g v) W1 w3 := by obtain ⟨_, _, hk, _⟩ := hm3; exact hk
             have hr3 := hk3.row HR1.out (fun hf => Nat.lt_irrefl _ (HFT.out _ hf))
             have q0 := cell_of_row w3 _ 0 _ _ _ hr3
             have q3 := cell_of_row w3 _ 3 _ _ _ hr3
             obtain ⟨v3, hv3⟩ := ho3.ck
             have hbe3 := Beside.arg HRD.out HOL.out (by have := H50.out; omega) ho3.bel hv3
             have hAD := add_any hv3 ho3.bel.size hbe3 (by have := ho3.far HI40.out; have := H50.out; omega)
             unfold Puts at hAD
             have HAD := Lib.hid hAD
             have HO3 := Lib.hid ho3
             have HV3 := Lib.hid hv3
             clear hm3 hk3 hr3 hv3 hbe3 hAD ho3 ht1)
          | (go_at_call 13; refine HAD.out.mono ?_; rintro e w4 ⟨rfl, hm4⟩
             obtain ⟨t2, ht2⟩ : ∃ t2, t2 = t1.put t1.last ol := ⟨_, rfl⟩
             rw [← ht2] at hm4
             have ho4 : Own w w4 g t2 (i + 1) := HO3.out.next HV3.out hm4 (by rw [ht2]; exact put_rises HO3.out.ris (by unfold Cv.last; omega) (Nat.le_refl _)) (by rw [ht2]; have := add_last (t := t1) (l := ol); have := HL3.out; have := HOL.out; have := H50.out; omega)
             have HO4 := Lib.hid ho4
             obtain ⟨v4, hc4⟩ := ho4.ck
             clear hm4 ho4 ht2
             have HBA := Lib.hid (base_any hc4)
             have HTE : Hid (Calls Try.prog 23 #[.pointer (some ⟨g, 0, none⟩), .int .u64 (t2.base : Int)] w4 fun e w' => e = .returned (.tuple #[.int .u64 (t2.old : Int), .bool true]) ∧ Below w4.heap.size w4 w') := Lib.hid (by
               have := term_any hc4 t2.base
               unfold Termed Cv.tm at this
               rw [if_pos rfl] at this
               exact this)
             have HFR : Hid (∀ W, Below w4.heap.size w4 W → Calls Try.prog 24 #[.pointer (some ⟨g, 0, none⟩), .int .u64 0] W (Rowed W 47 t2.l)) := Lib.hid (fun W hb => by
               have := from_any (hc4.below hb) 0 (by omega)
               rw [show t2.from_ 0 = t2.l from by unfold Cv.from_; rw [show 0 - t2.base - 1 = 0 by omega]; rfl] at this
               exact this)
             unfold Rowed at HFR
             clear hc4
             skip)
          | (go_at_call 26; fail)
          | fail)
        go_wp2_with (first
          | (go_at_call 26; refine HBA.out.mono ?_; rintro e w5 ⟨rfl, rfl⟩)
          | (go_at_call 23; refine HTE.out.mono ?_; rintro e w6 ⟨rfl, hb6⟩; have HO6 := Lib.hid (HO4.out.below hb6); have HFR := Lib.hid (HFR.out _ hb6); clear hb6)
          | (go_at_call 24; refine HFR.out.mono ?_; rintro e w7 ⟨A7, c7, rfl, ho7, hb7⟩; have HO7 := Lib.hid (HO6.out.below hb7); have HRD7 := Lib.hid (ownsRow_rd ho7); clear ho7 hb7)
          | fail)
        obtain ⟨m, hm⟩ : ∃ m, m = t2.l.length := ⟨_, rfl⟩
        rw [← hm] at HRD7 ⊢
        have HM := Lib.hid hm
        have hm4 : (m : Int) ≤ 5000 := by obtain ⟨v, hv⟩ := HO7.out.ck; have := hv.room; omega
        clear hm
        go_loopw [10, 52] (fun ar jr wq => ∃ a j : Nat, j ≤ m ∧ ar = .int .u64 (a : Int) ∧ jr = .int .i64 (j : Int) ∧ Hid (up a (t2.l.drop j) = true) ∧ Hid (Below w7.heap.size w7 wq)) (fun _ jr _ => m - (intOf jr).toNat)
        case atStart => exact ⟨t2.old, 0, Nat.zero_le _, rfl, rfl, Lib.hid HO7.out.ris, Lib.hid (Below.refl _ _)⟩
        case round =>
          obtain ⟨a, j, hj, rfl, rfl, HU, HBQ⟩ := hrel
          by_cases hjm : j < m
          · obtain ⟨x, hx⟩ : ∃ x, t2.l[j]? = some x := ⟨_, List.getElem?_eq_getElem (by have := HM.out; omega)⟩
            have hrd := HRD7.out.below HBQ.out
            obtain ⟨bq, oq, rfl, _, e0, e1, e2⟩ := hrd.item HM.out.symm hx
            have hU := HU.out
            rw [up_at hx, Bool.and_eq_true] at hU
            have hax := of_decide_eq_true hU.1
            have HU2 := Lib.hid hU.2
            have hjI : (j : Int) < (m : Int) := by omega
            have d5 : decide ((j : Int) < (m : Int)) = true := by simpa using hjI
            have d6 : decide ((x.tm : Int) < (a : Int)) = false := by simp; omega
            have d7 : decide (x.tm < a) = false := by simp; omega
            have d8 : ¬ x.tm < a := by omega
            clear hrd hx hU HU
            obtain ⟨xt, xk, xx⟩ := x
            dsimp only at *
            go_wp2
            exact ⟨⟨xt, j + 1, by omega, rfl, by go_num, HU2, Lib.hid (HBQ.out.alloc HBQ.out.size _)⟩, by simp [intOf]; omega⟩
          · obtain rfl : j = m := by omega
            have d5 : decide ((j : Int) < (j : Int)) = false := by simp
            clear hjm HU
            have hltI := HLT.out
            go_wp2
            exact ⟨⟨i + 1, t2, by omega, by go_num, Lib.hid (HO7.out.below HBQ.out)⟩, by simp [intOf]; omega⟩
      · have dk : decide (kd = 0) = false := by simpa using hk
        have dk2 : (kd == 0) = false := by simpa using hk
        go_wp2_with (first
          | (go_at_call 16; rw [← hW1]; refine HTK.out.mono ?_; rintro e w4 ⟨rfl, hm3⟩
             obtain ⟨t2, ht1⟩ : ∃ t1, t1 = t.take pv tm ol := ⟨_, rfl⟩
             rw [← ht1] at hm3
             have ho4 : Own w w4 g t2 (i + 1) := HO1.out.next HV1.out hm3 (by rw [ht1]; exact take_rises HO1.out.ris) (by rw [ht1]; have := take_last (t := t) (prev := pv) (term := tm) (l := ol); have := HO1.out.last; have := HOL.out; have := H50.out; omega)
             have hk3 : Keeps (Foot g v) W1 w4 := by obtain ⟨_, _, hk, _⟩ := hm3; exact hk
             have hr3 := hk3.row HR1.out (fun hf => Nat.lt_irrefl _ (HFT.out _ hf))
             have q0 := cell_of_row w4 _ 0 _ _ _ hr3
             have HO4 := Lib.hid ho4
             obtain ⟨v4, hc4⟩ := ho4.ck
             clear hm3 hk3 hr3 ho4 ht1
             have HBA := Lib.hid (base_any hc4)
             have HTE : Hid (Calls Try.prog 23 #[.pointer (some ⟨g, 0, none⟩), .int .u64 (t2.base : Int)] w4 fun e w' => e = .returned (.tuple #[.int .u64 (t2.old : Int), .bool true]) ∧ Below w4.heap.size w4 w') := Lib.hid (by
               have := term_any hc4 t2.base
               unfold Termed Cv.tm at this
               rw [if_pos rfl] at this
               exact this)
             have HFR : Hid (∀ W, Below w4.heap.size w4 W → Calls Try.prog 24 #[.pointer (some ⟨g, 0, none⟩), .int .u64 0] W (Rowed W 47 t2.l)) := Lib.hid (fun W hb => by
               have := from_any (hc4.below hb) 0 (by omega)
               rw [show t2.from_ 0 = t2.l from by unfold Cv.from_; rw [show 0 - t2.base - 1 = 0 by omega]; rfl] at this
               exact this)
             unfold Rowed at HFR
             clear hc4
             skip)
          | (go_at_call 26; fail)
          | fail)
        go_wp2_with (first
          | (go_at_call 26; refine HBA.out.mono ?_; rintro e w5 ⟨rfl, rfl⟩)
          | (go_at_call 23; refine HTE.out.mono ?_; rintro e w6 ⟨rfl, hb6⟩; have HO6 := Lib.hid (HO4.out.below hb6); have HFR := Lib.hid (HFR.out _ hb6); clear hb6)
          | (go_at_call 24; refine HFR.out.mono ?_; rintro e w7 ⟨A7, c7, rfl, ho7, hb7⟩; have HO7 := Lib.hid (HO6.out.below hb7); have HRD7 := Lib.hid (ownsRow_rd ho7); clear ho7 hb7)
          | fail)
        obtain ⟨m, hm⟩ : ∃ m, m = t2.l.length := ⟨_, rfl⟩
        rw [← hm] at HRD7 ⊢
        have HM := Lib.hid hm
        have hm4 : (m : Int) ≤ 5000 := by obtain ⟨v, hv⟩ := HO7.out.ck; have := hv.room; omega
        clear hm
        go_loopw [10, 52] (fun ar jr wq => ∃ a j : Nat, j ≤ m ∧ ar = .int .u64 (a : Int) ∧ jr = .int .i64 (j : Int) ∧ Hid (up a (t2.l.drop j) = true) ∧ Hid (Below w7.heap.size w7 wq)) (fun _ jr _ => m - (intOf jr).toNat)
        case atStart => exact ⟨t2.old, 0, Nat.zero_le _, rfl, rfl, Lib.hid HO7.out.ris, Lib.hid (Below.refl _ _)⟩
        case round =>
          obtain ⟨a, j, hj, rfl, rfl, HU, HBQ⟩ := hrel
          by_cases hjm : j < m
          · obtain ⟨x, hx⟩ : ∃ x, t2.l[j]? = some x := ⟨_, List.getElem?_eq_getElem (by have := HM.out; omega)⟩
            have hrd := HRD7.out.below HBQ.out
            obtain ⟨bq, oq, rfl, _, e0, e1, e2⟩ := hrd.item HM.out.symm hx
            have hU := HU.out
            rw [up_at hx, Bool.and_eq_true] at hU
            have hax := of_decide_eq_true hU.1
            have HU2 := Lib.hid hU.2
            have hjI : (j : Int) < (m : Int) := by omega
            have d5 : decide ((j : Int) < (m : Int)) = true := by simpa using hjI
            have d6 : decide ((x.tm : Int) < (a : Int)) = false := by simp; omega
            have d7 : decide (x.tm < a) = false := by simp; omega
            have d8 : ¬ x.tm < a := by omega
            clear hrd hx hU HU
            obtain ⟨xt, xk, xx⟩ := x
            dsimp only at *
            go_wp2
            exact ⟨⟨xt, j + 1, by omega, rfl, by go_num, HU2, Lib.hid (HBQ.out.alloc HBQ.out.size _)⟩, by simp [intOf]; omega⟩
          · obtain rfl : j = m := by omega
            have d5 : decide ((j : Int) < (j : Int)) = false := by simp
            clear hjm HU
            have hltI := HLT.out
            go_wp2
            exact ⟨⟨i + 1, t2, by omega, by go_num, Lib.hid (HO7.out.below HBQ.out)⟩, by simp [intOf]; omega⟩
    · obtain rfl : i = n := by omega
      have d3 : decide ((i : Int) < (i : Int)) = false := by simp
      clear hlt
      go_wp2_with (first
        | (go_at_call 10; refine (HLV.out _).mono ?_; rintro e w3 ⟨rfl, hb3⟩)
        | fail)
      go_ret
      exact ⟨rfl, HO.out.bel.trans (hb3.mono HO.out.bel.size)⟩
set_option maxHeartbeats 8000000 in
theorem rises_nil {w : World} (base term : Nat) (hbs : 4611686018427387904 < base) {A : Option Addr} {n c : Nat} {os : List O29} (h : Slc O29.lay w A n c os) :
    Calls Try.prog 5 #[.int .u64 (base : Int), .int .u64 (term : Int), .slice A n c] w fun e w' => e = .returned (.bool true) ∧ Below w.heap.size w w' := by
  have HH := Lib.hid h
  have HLG := Lib.hid (light29 h)
  have HLV := Lib.hid lives29
  have HN := Lib.hid (fun W => cnew_none base term W hbs)
  have hcap := h.rd.2.1
  have hnc := h.rd.1
  have hnm : (n : Int) ≤ 9223372036854775807 := by unfold maxLen at hcap; omega
  have HLEN := Lib.hid h.len
  have HNB := Lib.hid nbase
  have HNT := Lib.hid (fun W => nterm W 0)
  unfold Termed at HNT
  rw [if_pos rfl, show ((0 : Nat) : Int) = 0 from rfl] at HNT
  simp only [Option.getD_some, Option.isSome_some, Int.natCast_zero] at HNT
  have HNF := Lib.hid nfrom
  have HNA := Lib.hid nadd
  unfold Rowed at HNF
  simp only [List.length_nil] at HNF
  unfold LAns at HLG
  clear h hcap hnc hbs
  go_enter Try.func5, Try.ntmps5
  go_wp2_with (first
    | (go_at_call 9; refine HLG.out.mono ?_; rintro e w1 ⟨b1, rfl, hf1, hb1⟩; have HB1 := Lib.hid hb1; have HF1 := Lib.hid hf1; clear hb1 hf1; cases b1)
    | (go_at_call 10; refine (HLV.out _).mono ?_; rintro e w2 ⟨rfl, hb2⟩)
    | (go_at_call 11; refine (HN.out _).mono ?_; rintro e w2 ⟨rfl, rfl⟩)
    | fail)
  · go_ret
    exact ⟨rfl, HB1.out.trans (hb2.mono HB1.out.size)⟩
  have HFEW := Lib.hid (HF1.out (by first | rfl | trivial))
  clear HF1
  go_loopw [23] (fun ir wr => ∃ (i : Nat), i ≤ n ∧ ir = .int .i64 (i : Int) ∧ Hid (Below w.heap.size w wr)) (fun ir _ => n - (intOf ir).toNat)
  case atStart => exact ⟨0, Nat.zero_le _, rfl, HB1⟩
  case round =>
    obtain ⟨i, hi, rfl, HB⟩ := hrel
    by_cases hlt : i < n
    · obtain ⟨o, ho⟩ : ∃ o, os[i]? = some o := ⟨_, List.getElem?_eq_getElem (by have := HLEN.out; omega)⟩
      obtain ⟨b, off, rfl, k0, k1, k2, k3⟩ := op_cells HH.out ho HB.out
      have hrds := (HH.out.reads o (List.mem_of_getElem? ho))
      have h50 := HFEW.out.2 o (List.mem_of_getElem? ho)
      have hlti : (i : Int) < (n : Int) := by omega
      have HLT := Lib.hid hlti
      have HRD := Lib.hid hrds.2.2.1
      have H50 := Lib.hid h50
      clear ho hrds h50
      obtain ⟨kd, pv, tm, oA, on, oc, ol⟩ := o
      dsimp only at *
      obtain ⟨W1, hW1⟩ : ∃ W1, W1 = wr.alloc (.cells #[.int .i64 kd, .int .u64 (pv : Int), .int .u64 (tm : Int), .slice oA on oc] 33) := ⟨_, rfl⟩
      have hr1 := heap_alloc_new wr (.cells #[.int .i64 kd, .int .u64 (pv : Int), .int .u64 (tm : Int), .slice oA on oc] 33)
      have hb1 := (Below.refl wr.heap.size wr).alloc (Nat.le_refl _) (.cells #[.int .i64 kd, .int .u64 (pv : Int), .int .u64 (tm : Int), .slice oA on oc] 33)
      rw [← hW1] at hr1 hb1
      have HBW := Lib.hid (HB.out.trans (hb1.mono HB.out.size))
      have HR1 := Lib.hid hr1
      have HTK := Lib.hid (ntake (w := W1) pv tm (by have := H50.out; omega) ((HRD.out.below HBW.out).more HBW.out.size))
      unfold Told at HTK
      clear hr1 hb1
      by_cases hk : kd = 0
      · subst hk
        go_wp2_with (first
          | (go_at_call 16; rw [← hW1]; refine HTK.out.mono ?_; rintro e w3 ⟨kT, bT, rfl, hb3⟩
             have hr3 := row_below HR1.out hb3
             have q0 := cell_of_row w3 _ 0 _ _ _ hr3
             have q3 := cell_of_row w3 _ 3 _ _ _ hr3
             have HB3 := Lib.hid (HBW.out.trans (hb3.mono HBW.out.size))
             clear hb3 hr3)
          | (go_at_call 13; refine (HNA.out _ _ _ _).mono ?_; rintro e w4 ⟨rfl, hb4⟩
             have HB4 := Lib.hid (HB3.out.trans (hb4.mono HB3.out.size))
             clear hb4)
          | (go_at_call 26; fail)
          | fail)
        go_wp2_with (first
          | (go_at_call 26; refine (HNB.out _).mono ?_; rintro e w5 ⟨rfl, hb5⟩; have HB5 := Lib.hid (HB4.out.trans (hb5.mono HB4.out.size)); clear hb5)
          | (go_at_call 23; refine (HNT.out _).mono ?_; rintro e w6 ⟨rfl, hb6⟩; have HB6 := Lib.hid (HB5.out.trans (hb6.mono HB5.out.size)); clear hb6)
          | (go_at_call 24; refine (HNF.out _).mono ?_; rintro e w7 ⟨A7, c7, rfl, ho7, hb7⟩; have HB7 := Lib.hid (HB6.out.trans (hb7.mono HB6.out.size)); clear ho7 hb7)
          | fail)
        go_loopw [10, 52] (fun ar jr wq => ar = .int .u64 0 ∧ jr = .int .i64 0 ∧ wq = w7) (fun _ _ _ => 0)
        case atStart => exact ⟨rfl, rfl, rfl⟩
        case round =>
          obtain ⟨rfl, rfl, rfl⟩ := hrel
          have hltI := HLT.out
          go_wp2
          exact ⟨⟨i + 1, by omega, by go_num, HB7⟩, by simp [intOf]; omega⟩
      · have dk : decide (kd = 0) = false := by simpa using hk
        have dk2 : (kd == 0) = false := by simpa using hk
        go_wp2_with (first
          | (go_at_call 16; rw [← hW1]; refine HTK.out.mono ?_; rintro e w4 ⟨kT, bT, rfl, hb3⟩
             have hr3 := row_below HR1.out hb3
             have q0 := cell_of_row w4 _ 0 _ _ _ hr3
             have HB4 := Lib.hid (HBW.out.trans (hb3.mono HBW.out.size))
             clear hb3 hr3)
          | (go_at_call 26; fail)
          | fail)
        go_wp2_with (first
          | (go_at_call 26; refine (HNB.out _).mono ?_; rintro e w5 ⟨rfl, hb5⟩; have HB5 := Lib.hid (HB4.out.trans (hb5.mono HB4.out.size)); clear hb5)
          | (go_at_call 23; refine (HNT.out _).mono ?_; rintro e w6 ⟨rfl, hb6⟩; have HB6 := Lib.hid (HB5.out.trans (hb6.mono HB5.out.size)); clear hb6)
          | (go_at_call 24; refine (HNF.out _).mono ?_; rintro e w7 ⟨A7, c7, rfl, ho7, hb7⟩; have HB7 := Lib.hid (HB6.out.trans (hb7.mono HB6.out.size)); clear ho7 hb7)
          | fail)
        go_loopw [10, 52] (fun ar jr wq => ar = .int .u64 0 ∧ jr = .int .i64 0 ∧ wq = w7) (fun _ _ _ => 0)
        case atStart => exact ⟨rfl, rfl, rfl⟩
        case round =>
          obtain ⟨rfl, rfl, rfl⟩ := hrel
          have hltI := HLT.out
          go_wp2
          exact ⟨⟨i + 1, by omega, by go_num, HB7⟩, by simp [intOf]; omega⟩
    · obtain rfl : i = n := by omega
      have d3 : decide ((i : Int) < (i : Int)) = false := by simp
      clear hlt
      go_wp2_with (first
        | (go_at_call 10; refine (HLV.out _).mono ?_; rintro e w3 ⟨rfl, hb3⟩)
        | fail)
      go_ret
      exact ⟨rfl, HB.out.trans (hb3.mono HB.out.size)⟩
theorem chainRises_walk {w : World} (base : Nat) (_ : base < 18446744073709551616) (term : Nat) (_ : term < 18446744073709551616) {A : Option Addr} {n c : Nat} {os : List O29} (h : Slc O29.lay w A n c os) :
    Calls Try.prog 5 #[.int .u64 (base : Int), .int .u64 (term : Int), .slice A n c] w fun e w' => e = .returned (.bool true) ∧ Below w.heap.size w w' := by
  rcases Nat.lt_or_ge 4611686018427387904 base with h1 | h1
  · exact rises_nil base term h1 h
  · exact rises_own base term h1 h
namespace chainRises
open Go.ChangeShapes Go.WideShapes Go.ChangeAt
set_option maxRecDepth 100000 in
theorem lifted (os : Os) (started : os.Started) (H : Type) (enc : TypeId × Value → H) :
    ReturnsInHanded {} Try.checked os 5 .any (Rows.chainRisesSpec.pre6 enc Try.prog Try.f5 Rows.chainRisesRow.domain false) (Rows.chainRisesSpec.post enc Try.prog Try.f5 false true false false) := by
  refine returnsInHanded_of_change (C := Try.checked) own started (by kernel_rfl) Try.func5
    (ChangeSpec.witness6 (enc := enc) (C := Try.checked) false ⟨#[], #[.int .u64 0, .int .u64 0, .slice none 0 0], []⟩ 8 (by kernel_rfl) (by kernel_rfl) (by kernel_rfl) (by kernel_rfl)) ?_
  intro W base args ds gs before hval0 hW _ _
  have hval : ∀ (j : Nat) t v, Try.f5.params[j]? = some t → args[j]? = some v → Value.okWide Try.prog W .any base t v := hval0
  have hW' := hW
  obtain ⟨p, q, hA0, hV, rfl, hfz, hnd⟩ := hW
  have hA : DataW.TrodAll enc Try.prog W 0 (fun _ => true) true Try.f5.params.toList args.toList ds p := hA0
  rw [Try.params5] at hA hval
  obtain ⟨v0, vs0, d0, ds0, p0, q0, hargs, rfl, rfl, h0, r0⟩ := trodAll_cons hA
  obtain ⟨v1, vs1, d1, ds1, p1, q1, rfl, rfl, rfl, h1, r1⟩ := trodAll_cons r0
  obtain ⟨v2, vs2, d2, ds2, p2, q2, rfl, rfl, rfl, h2, r2⟩ := trodAll_cons r1
  obtain ⟨rfl, rfl, rfl⟩ := trodAll_nil r2
  obtain rfl : args = #[v0, v1, v2] := by cases args; simp_all
  obtain ⟨rfl, rfl⟩ := trodVars_none hV
  have k0 := h0
  have lt0 : ∀ x ∈ p0, x.block < W.heap.size := by obtain ⟨m, hm⟩ := k0; exact DataW.trod_lt m _ _ _ hm
  obtain ⟨x0, rfl, w0⟩ := dec_u64 Try.underlying22 (hval 0 22 v0 rfl rfl) h0
  have k1 := h1
  have lt1 : ∀ x ∈ p1, x.block < W.heap.size := by obtain ⟨m, hm⟩ := k1; exact DataW.trod_lt m _ _ _ hm
  obtain ⟨x1, rfl, w1⟩ := dec_u64 Try.underlying22 (hval 1 22 v1 rfl rfl) h1
  have k2 := h2
  have lt2 : ∀ x ∈ p2, x.block < W.heap.size := by obtain ⟨m, hm⟩ := k2; exact DataW.trod_lt m _ _ _ hm
  obtain ⟨a2, n2, c2, l2, rfl, w2⟩ := O29.dec (hval 2 23 v2 rfl rfl) h2
  clear hA0 hval0
  refine (chainRises_walk x0 w0 x1 w1 w2).mono fun e W' ⟨he, bel⟩ => ?_
  subst he
  exact ⟨_, rfl, _, _, _, [], _, [], hW', trodAll_mk1 (shut_bool Try.underlying4 _), (trodAll_cons_mk (Below.trod laidOut (by kernel_rfl) (of_decide_eq_true (by kernel_rfl)) k0 bel lt0) (trodAll_cons_mk (Below.trod laidOut (by kernel_rfl) (of_decide_eq_true (by kernel_rfl)) k1 bel lt1) (trodAll_cons_mk (Below.trod laidOut (by kernel_rfl) (of_decide_eq_true (by kernel_rfl)) k2 bel lt2) trodAll_mk0))), rfl, bel.frame _, fun h => by cases h⟩

theorem over : Rows.chainRisesRow.holds Try.pinned (OpenSpec.ofChange Rows.chainRisesSpec) :=
  OpenClaim.holds_of_wide 5 Try.f5 rfl rfl rfl rfl rfl rfl rfl ⟨rfl, rfl, rfl, rfl, rfl⟩ rfl rfl rfl rfl rfl (by kernel_rfl) Try.func5 (by kernel_rfl)
    (of_decide_eq_true (by kernel_rfl)) (by unfold Func.isWrapper; first | (rw [if_pos (by decide +kernel)]; kernel_rfl) | (rw [if_neg (by decide +kernel)]; exact ⟨rfl, rfl⟩))
    (fun os started H enc _ => lifted os started H enc)
/-- The given statement. -/
theorem proved : Rows.ChainRisesSaid := over
end chainRises

end Go.Proofs.Ytlpckhjmbfeegaa
