/- The reference's Take. -/
import Derived.Test.YtlpckhjmbfeegaaDd
namespace Go.Proofs.Ytlpckhjmbfeegaa
open Go.RowKit
set_option maxRecDepth 20000
/-- What the reference's Take tells and makes. -/
def RTakes (w : World) (g : Nat) (A : Option Addr) (t : Cv) (prev term : Nat) (l : List It) (e : Ending) (w' : World) : Prop := e = .returned (.tuple #[.int .u64 ((if t.takes prev term l then t.takeTo prev l else 0 : Nat) : Int), .bool (t.takes prev term l)]) ∧ RMv w g A t.l.length (t.take prev term l) w'
section
variable {w w' w1 : World} {g c : Nat} {A : Option Addr} {t : Cv}
theorem rtakes_no {prev term : Nat} {l : List It} (hm : t.meets prev term = false) : t.takes prev term l = false ∧ t.take prev term l = t := by
  unfold Cv.takes Cv.take; rw [hm]; exact ⟨rfl, rfl⟩
theorem take_base (t : Cv) (prev term : Nat) (l : List It) : (t.take prev term l).base = t.base := by
  unfold Cv.take
  split
  · split
    · rfl
    · unfold Cv.put
      split <;> rfl
  · rfl
/-- Between two rounds. -/
def RJ (w wr : World) (g : Nat) (A : Option Addr) (t : Cv) (prev term n : Nat) (l : List It) (k : Nat) : Prop :=
  (k ≤ n ∧ Below w.heap.size w wr ∧ max (prev + k) t.base ≤ t.last ∧ t.left prev l = t.differ (max (prev + k) t.base) (l.drop (max (prev + k) t.base - prev))) ∨ (k = n + 1 ∧ t.takes prev term l = true ∧ RMv w g A t.l.length (t.take prev term l) wr)
set_option maxHeartbeats 8000000 in
theorem rtake_any (h : Rk w g A c t) (prev term : Nat) {A2 : Option Addr} {n c2 : Nat} {l : List It} (hl : Rd w w.heap.size 3 A2 n c2 (its l)) (hln : l.length = n) (hf : n ≤ 5000) (hbd : t.last + n < 9000000000000000000) :
    Calls Try.prog 17 #[.pointer (some ⟨g, 0, none⟩), .int .u64 (prev : Int), .int .u64 (term : Int), .slice A2 n c2] w (RTakes w g A t prev term l) := by
  have HH := Lib.hid h
  have HLA := Lib.hid (rlast_any h)
  have HL := Lib.hid hl
  have HLN := Lib.hid hln
  have HT := Lib.hid (fun W (hb : Below w.heap.size w W) => rterm_any (h.below hb) prev)
  unfold Termed at HT
  have hlast := h.bound
  have hbl := h.bl
  by_cases h1 : t.last < prev
  · have hm : t.meets prev term = false := by
      cases hm : t.meets prev term with
      | false => rfl
      | true => exact absurd (meets_le hm) (by omega)
    have HR := Lib.hid (rtakes_no (l := l) hm)
    have d1 : decide ((t.last : Int) < (prev : Int)) = true := by simp; omega
    have d2 : decide (t.last < prev) = true := by simpa using h1
    clear h hl hln hf hbd hm
    go_enter Try.func17, Try.ntmps17
    go_wp2_with (first
      | (go_at_call 38; refine HLA.out.mono ?_; rintro e w2 ⟨rfl, hb2⟩; have HB2 := Lib.hid hb2; clear hb2)
      | fail)
    go_ret2
    unfold RTakes
    rw [HR.out.1, HR.out.2]
    exact ⟨rfl, RMv.same HH.out HB2.out⟩
  have d1 : decide ((t.last : Int) < (prev : Int)) = false := by simp; omega
  have d2 : decide (t.last < prev) = false := by simpa using h1
  cases hm : t.meets prev term with
  | false =>
    have HR := Lib.hid (rtakes_no (l := l) hm)
    have hnb : ¬ prev < t.base := by
      intro hp
      unfold Cv.meets at hm
      rw [decide_eq_true hp, Bool.true_or] at hm
      cases hm
    have hne : t.tm prev ≠ some term := by
      intro hp
      unfold Cv.meets at hm
      rw [decide_eq_true hp, Bool.or_true] at hm
      cases hm
    have d3 : decide ((t.base : Int) ≤ (prev : Int)) = true := by simp; omega
    have d4 : decide (t.base ≤ prev) = true := by simp; omega
    generalize t.tm prev = o at *
    clear h hl hln hf hbd hm
    rcases o with _ | y
    · simp only [Option.getD_none, Option.isSome_none] at HT
      go_enter Try.func17, Try.ntmps17
      go_wp2_with (first
        | (go_at_call 38; refine HLA.out.mono ?_; rintro e w2 ⟨rfl, hb2⟩; have HB2 := Lib.hid hb2; clear hb2)
        | (go_at_call 45; refine (HT.out _ HB2.out).mono ?_; rintro e w3 ⟨rfl, hb3⟩; have HB3 := Lib.hid (HB2.out.trans (hb3.mono HB2.out.size)); have c0 := (HH.out.below HB3.out).c0; clear hb3)
        | fail)
      go_ret2
      unfold RTakes
      rw [HR.out.1, HR.out.2]
      exact ⟨rfl, RMv.same HH.out HB3.out⟩
    · simp only [Option.getD_some, Option.isSome_some] at HT
      have hy : ¬ y = term := fun e => hne (by rw [e])
      have q6 : ((y : Int) == (term : Int)) = false := by simp; omega
      have q7 : decide ((y : Int) = (term : Int)) = false := by simp; omega
      have q8 : decide (y = term) = false := by simpa using hy
      clear hne
      go_enter Try.func17, Try.ntmps17
      go_wp2_with (first
        | (go_at_call 38; refine HLA.out.mono ?_; rintro e w2 ⟨rfl, hb2⟩; have HB2 := Lib.hid hb2; clear hb2)
        | (go_at_call 45; refine (HT.out _ HB2.out).mono ?_; rintro e w3 ⟨rfl, hb3⟩; have HB3 := Lib.hid (HB2.out.trans (hb3.mono HB2.out.size)); have c0 := (HH.out.below HB3.out).c0; clear hb3)
        | fail)
      go_ret2
      unfold RTakes
      rw [HR.out.1, HR.out.2]
      exact ⟨rfl, RMv.same HH.out HB3.out⟩
  | true =>
    have HMT := Lib.hid hm
    have hpl := meets_le hm
    have nI : (n : Int) ≤ 5000 := by omega
    have pI : (prev : Int) < 9000000000000000000 := by omega
    have bI : (t.base : Int) < 9000000000000000000 := by omega
    have HPL := Lib.hid hpl
    have HFW := Lib.hid hf
    have HBD := Lib.hid hbd
    have HBL := Lib.hid hbl
    have HRM := Lib.hid h.room
    have HJ0 : Hid (max (prev + 0) t.base ≤ t.last ∧ t.left prev l = t.differ (max (prev + 0) t.base) (l.drop (max (prev + 0) t.base - prev))) := Lib.hid ⟨by unfold Cv.last at *; omega, rfl⟩
    -- ahead of the loop: the guard lets it through
    have key : ∃ (ov : Nat) (okv : Bool), (∀ W, Below w.heap.size w W → Calls Try.prog 45 #[.pointer (some ⟨g, 0, none⟩), .int .u64 (prev : Int)] W fun e w' => e = .returned (.tuple #[.int .u64 (ov : Int), .bool okv]) ∧ Below W.heap.size W w') ∧ (prev < t.base ∨ (t.base ≤ prev ∧ okv = true ∧ ov = term)) := by
      refine ⟨(t.tm prev).getD 0, (t.tm prev).isSome, HT.out, ?_⟩
      by_cases hp : prev < t.base
      · exact .inl hp
      · unfold Cv.meets at hm
        rw [decide_eq_false hp, Bool.false_or] at hm
        have := of_decide_eq_true hm
        rw [this]
        exact .inr ⟨by omega, rfl, rfl⟩
    obtain ⟨ov, okv, hT2, hg2⟩ := key
    have HT2 := Lib.hid hT2
    clear h hl hln hf hbd hm hpl hT2 HT
    rcases hg2 with hp | ⟨hp, rfl, hov⟩
    · have d3 : decide ((t.base : Int) ≤ (prev : Int)) = false := by simp; omega
      have d4 : decide (t.base ≤ prev) = false := by simp; omega
      go_enter Try.func17, Try.ntmps17
      go_wp2_with (first
        | (go_at_call 38; refine HLA.out.mono ?_; rintro e w2 ⟨rfl, hb2⟩; have HB2 := Lib.hid hb2; clear hb2)
        | (go_at_call 45; refine (HT2.out _ HB2.out).mono ?_; rintro e w3 ⟨rfl, hb3⟩; have HB3 := Lib.hid (HB2.out.trans (hb3.mono HB2.out.size)); have c0 := (HH.out.below HB3.out).c0; clear hb3)
        | fail)
      clear c0
      go_loopw [12] (fun kr wr => ∃ k : Nat, kr = .int .i64 (k : Int) ∧ k ≤ n + 1 ∧ Hid (RJ w wr g A t prev term n l k)) (fun kr _ => n + 1 - (intOf kr).toNat)
      case atStart => exact ⟨0, rfl, Nat.zero_le _, Lib.hid (.inl ⟨Nat.zero_le _, HB3.out, HJ0.out.1, HJ0.out.2⟩)⟩
      case round =>
        obtain ⟨k, rfl, hk, HJ⟩ := hrel
        by_cases hlt : k < n
        · obtain ⟨hbr, hle, hleft⟩ : Below w.heap.size w wr ∧ max (prev + k) t.base ≤ t.last ∧ t.left prev l = t.differ (max (prev + k) t.base) (l.drop (max (prev + k) t.base - prev)) := by
            rcases HJ.out with ⟨_, h2, h3, h4⟩ | ⟨h1, _⟩
            · exact ⟨h2, h3, h4⟩
            · omega
          have HBR := Lib.hid hbr
          have HLE := Lib.hid hle
          have HLF := Lib.hid hleft
          have c0 := (HH.out.below hbr).c0
          have kI : (k : Int) < (n : Int) := by omega
          have d5 : decide ((k : Int) < (n : Int)) = true := by simpa using kI
          have HKN := Lib.hid hlt
          clear hbr hle hleft HJ
          by_cases hib : prev + 1 + k ≤ t.base
          · have d6 : (prev : Int) + 1 + (k : Int) ≤ (t.base : Int) := by omega
            have d7 : decide ((prev : Int) + 1 + (k : Int) ≤ (t.base : Int)) = true := by simpa using d6
            have HIB := Lib.hid hib
            clear hib hlt
            go_wp2_with (fail)
            have hib := HIB.out
            have hkn := HKN.out
            refine ⟨⟨k + 1, by go_num, by omega, Lib.hid (.inl ⟨by omega, HBR.out, ?_, ?_⟩)⟩, by simp [intOf]; omega⟩
            · have := HLE.out; omega
            · have := HLF.out
              rw [show max (prev + (k + 1)) t.base = max (prev + k) t.base by omega]
              exact this
          · have d6 : ¬ (prev : Int) + 1 + (k : Int) ≤ (t.base : Int) := by omega
            have d7 : decide ((prev : Int) + 1 + (k : Int) ≤ (t.base : Int)) = false := by simpa using d6
            obtain ⟨a, ha⟩ : ∃ a, a = prev + k := ⟨_, rfl⟩
            have hab : t.base ≤ a := by omega
            have haw : max (prev + k) t.base = a := by omega
            obtain ⟨x, hx⟩ : ∃ x, l[k]? = some x := ⟨_, List.getElem?_eq_getElem (by have := HLN.out; omega)⟩
            have hE := HLF.out
            rw [haw, show a - prev = k by omega, differ_at hx] at hE
            have haL : a ≤ t.last := by have := HLE.out; omega
            have hG := rget_any (HH.out.below HBR.out) (a + 1)
            rw [show ((a + 1 : Nat) : Int) = (prev : Int) + 1 + (k : Int) by omega] at hG
            unfold Got at hG
            have htm : t.tm (a + 1) = (t.at_ (a + 1)).map It.tm := by unfold Cv.tm; rw [if_neg (by omega)]
            rw [htm] at hE
            have HGT := Lib.hid (fun z (hz : t.at_ (a + 1) = some z) => show a + 1 ≤ t.last by
              rcases Nat.lt_or_ge t.last (a + 1) with h1 | h1
              · rw [at_far h1] at hz; cases hz
              · exact h1)
            obtain ⟨b, o, rfl, hbb, _⟩ := HL.out.2.2.2 (by omega)
            have k0 := (HL.out.below HBR.out).item HLN.out hx
            obtain ⟨b', o', hA', hbb', k0, k1, k2⟩ := k0
            cases hA'
            have HA := Lib.hid ha
            have HAB := Lib.hid hab
            have HAL := Lib.hid haL
            have HIB := Lib.hid hib
            have HZC : Hid (n ≤ c2) := Lib.hid HL.out.1
            clear hlt hib hx ha hab haw haL htm
            obtain ⟨xt, xk, xx⟩ := x
            dsimp only at *
            cases hoz : t.at_ (a + 1) with
            | none =>
              rw [hoz] at hG hE
              rw [if_neg (by simp)] at hE
              simp only [Option.getD_none, Option.isSome_none, itNil, It.cells] at hG
              have HG := Lib.hid hG
              have HE := Lib.hid hE
              clear hG hE hoz
              go_wp2_with (first
                | (go_at_call 46; refine HG.out.mono ?_; rintro e w4 ⟨rfl, hb4⟩; have HB4 := Lib.hid (HBR.out.trans (hb4.mono HBR.out.size)); clear hb4)
                | fail)
              obtain ⟨W5, hW5⟩ : ∃ W5, W5 = w4.alloc (.cells #[.int .u64 0, .int .i64 0, .string (str [])] 62) := ⟨_, rfl⟩
              have HB5 : Hid (Below w.heap.size w W5) := Lib.hid (by rw [hW5]; exact HB4.out.alloc HB4.out.size _)
              try rw [← hW5]
              go_quiet (fail)
              rename_i nq
              obtain ⟨WX, hWX⟩ : ∃ WX, WX = W5.drewN nq := ⟨_, rfl⟩
              have HBX : Hid (Below w.heap.size w WX) := Lib.hid (by rw [hWX]; exact HB5.out.trans ((drewN_below _ _).mono HB5.out.size))
              rw [← hWX]
              clear hWX hW5 c0 k0 k1 k2
              go_wp2_with (fail)
              obtain ⟨s, hs⟩ : ∃ s, s = a - t.base := ⟨_, rfl⟩
              have u1 : (prev : Int) + 1 + (k : Int) - (t.base : Int) = (s : Int) + 1 := by have := HA.out; have := HAB.out; omega
              have u2 : IntKind.u64.wrap ((prev : Int) + 1 + (k : Int) - (t.base : Int)) = (s : Int) + 1 := by rw [u64w _ (by omega) (by omega)]; exact u1
              have hsl : s ≤ t.l.length := by have := HAL.out; unfold Cv.last at this; omega
              have hscI : (s : Int) ≤ 4096 := by have := HRM.out; omega
              have hslI : (s : Int) ≤ (t.l.length : Int) := by omega
              have hsc : s ≤ c := Nat.le_trans hsl HH.out.rd.1
              have hkc : ¬ c2 = k := by have := HZC.out; have := HKN.out; omega
              have hkc2 : k ≤ c2 := by have := HZC.out; have := HKN.out; omega
              have hkn2 : k ≤ n := by have := HKN.out; omega
              have HGX := Lib.hid HH.out.lt
              have c0 := (HH.out.below HBX.out).c0
              have c1 := (HH.out.below HBX.out).c1
              have c2x := (HH.out.below HBX.out).c2
              have HS := Lib.hid hs
              have HSL := Lib.hid hsl
              have HLD : Hid ((l.drop k).length = n - k) := Lib.hid (by rw [List.length_drop, HLN.out])
              have HJN := Lib.hid (fun W (hb : Below w.heap.size w W) => by
                have hy := ((HL.out.below hb).more hb.size).drop3 HLN.out hkn2
                simp only [Option.map_some, addOff] at hy
                exact joined_any (w := W) t.old ((HH.out.below hb).rd.take3 rfl hsl) hy (by rw [List.length_take]; omega) HLD.out (by have := HRM.out; omega) (by have := HFW.out; omega))
              have HSJ : Hid (t.stop a (l.drop k) = jstop t.old (t.l.take s) (l.drop k)) := Lib.hid (by rw [stop_join HAB.out HAL.out, hs])
              unfold Joined at HJN
              clear hs hsl
              refine wp_grow [([0, 1, 2, 3, 4, 5, 6, 7, 8, 9, 10, 11, 12, 13, 14, 15, 16, 17, 18], 19)] [20, 21, 22, 23, 24] (by kernel_rfl) (by kernel_rfl) (fun d _ _ _ _ h => by cases d <;> exact h) fun wd hbd => ?_
              intro q hq
              have F0 := fun z => ((hq z).cell (p := ⟨g, 0, none⟩) (Nat.lt_of_lt_of_le HGX.out HBX.out.size)).trans c0
              have F1 := fun z => ((hq z).cell (p := ⟨g, 1, none⟩) (Nat.lt_of_lt_of_le HGX.out HBX.out.size)).trans c1
              have F2 := fun z => ((hq z).cell (p := ⟨g, 2, none⟩) (Nat.lt_of_lt_of_le HGX.out HBX.out.size)).trans c2x
              simp only [pickI, Option.toList_some, List.cons_append, List.nil_append, List.getElem?_toArray, List.getElem?_cons_succ, List.getElem?_cons_zero]
              try go_frame
              repeat (go_big_quiet_step (fail))
              refine wpQuiet_nil ?_
              clear hq q F0 F1 F2
              refine seg_op (by simp only [List.getElem?_toArray, List.getElem?_cons_succ, List.getElem?_cons_zero]; rfl) fun K hK => ?_
              go_simp
              have zd := HBX.out.trans (hbd.mono HBX.out.size)
              refine (HJN.out wd zd).mono ?_
              rintro e w6 ⟨A6, n6, c6, rfl, hb6, ho6⟩
              have HO6 := Lib.hid ho6
              have HB6 := Lib.hid (zd.trans (hb6.mono zd.size))
              have HZD := Lib.hid zd.size
              refine hK.out _ _ (seg_keep (hbd.trans (hb6.mono hbd.size)) ?_)
              clear hK K ho6 hb6 zd
              try go_frame
              have hj3 := jstop_cases t.old (t.l.take s) (l.drop k)
              have HTK : Hid (t.takes prev term l = (t.stop a (l.drop k) == 0) ∧ t.take prev term l = t.put a (l.drop k)) := Lib.hid (by unfold Cv.takes Cv.take; rw [HMT.out, HE.out]; exact ⟨rfl, rfl⟩)
              rw [HSJ.out] at HTK
              have HPU : Hid (jstop t.old (t.l.take s) (l.drop k) = 0 → t.put a (l.drop k) = { t with l := t.l.take s ++ l.drop k } ∧ (t.l.take s ++ l.drop k).length ≤ 4096 ∧ t.base + (t.l.take s ++ l.drop k).length < 9000000000000000000) := Lib.hid (by
                intro e
                refine ⟨?_, ?_, ?_⟩
                · unfold Cv.put
                  rw [HSJ.out, if_pos e]
                  unfold Cv.set
                  rw [HS.out]
                · unfold jstop at e
                  split at e
                  · cases e
                  · rw [List.length_append]; omega
                · rw [List.length_append, List.length_take, HLD.out]
                  have := HBD.out
                  have := HAL.out
                  have := HAB.out
                  have := HS.out
                  have := HFW.out
                  unfold Cv.last at *
                  omega)
              generalize jstop t.old (t.l.take s) (l.drop k) = js at *
              rcases hj3 with rfl | rfl | rfl
              · skip
                intro q hq
                simp only [pickI, Option.toList_some, List.cons_append, List.nil_append, List.getElem?_toArray, List.getElem?_cons_succ, List.getElem?_cons_zero]
                repeat (go_big_quiet_step (fail))
                refine wpQuiet_nil ?_
                clear hq q
                obtain ⟨rfl, hown⟩ := HO6.out rfl
                have h6 := HH.out.below HB6.out
                have f2 := h6.fr 2
                have e2 := h6.c2
                obtain ⟨h7, h8, h9⟩ := HPU.out rfl
                have hm := HH.out.items (l2 := t.l.take s ++ l.drop k) HB6.out (ownsRow_low hown HZD.out) h8 h9
                rw [← h7] at hm
                obtain ⟨m6, hm6⟩ : ∃ m6, m6 = (t.l.take s ++ l.drop k).length := ⟨_, rfl⟩
                rw [← hm6] at hm ⊢
                have HM := Lib.hid hm
                have HPT := Lib.hid HTK.out.2
                have HTT := Lib.hid HTK.out.1
                clear hm hown h6 h7 h8 h9 hm6 u1 u2
                go_wp2_with (fail)
                refine ⟨⟨n + 1, by go_num, Nat.le_refl _, Lib.hid (.inr ⟨rfl, ?_, ?_⟩)⟩, ?_⟩
                · rw [HTT.out]; rfl
                · rw [HPT.out]; exact HM.out
                · have := HKN.out; simp [intOf]; omega
              · skip
                intro q hq
                simp only [pickI, Option.toList_some, List.cons_append, List.nil_append, List.getElem?_toArray, List.getElem?_cons_succ, List.getElem?_cons_zero]
                repeat (go_big_quiet_step (fail))
                refine wpQuiet_nil ?_
                clear hq q u1 u2
                go_wp2_with (fail)
                go_ret2
                unfold RTakes
                rw [HTK.out.1, HTK.out.2]
                have hpu : t.put a (l.drop k) = t := put_id (by rw [HSJ.out]; decide)
                rw [hpu]
                exact ⟨rfl, RMv.same HH.out HB6.out⟩
              · skip
                intro q hq
                simp only [pickI, Option.toList_some, List.cons_append, List.nil_append, List.getElem?_toArray, List.getElem?_cons_succ, List.getElem?_cons_zero]
                repeat (go_big_quiet_step (fail))
                refine wpQuiet_nil ?_
                clear hq q u1 u2
                go_wp2_with (fail)
                go_ret2
                unfold RTakes
                rw [HTK.out.1, HTK.out.2]
                have hpu : t.put a (l.drop k) = t := put_id (by rw [HSJ.out]; decide)
                rw [hpu]
                exact ⟨rfl, RMv.same HH.out HB6.out⟩

            | some z =>
              rw [hoz] at hG hE
              simp only [Option.getD_some, Option.isSome_some, Option.map_some, It.cells] at hG hE
              have HG := Lib.hid hG
              have hzl := HGT.out z hoz
              have HZL := Lib.hid hzl
              clear hG hoz hzl
              obtain ⟨zt, zk, zx⟩ := z
              dsimp only at *
              by_cases hzx : zt = xt
              · subst hzx
                rw [if_pos rfl] at hE
                have HE := Lib.hid hE
                clear hE
                go_wp2_with (first
                  | (go_at_call 46; refine HG.out.mono ?_; rintro e w4 ⟨rfl, hb4⟩; have HB4 := Lib.hid (HBR.out.trans (hb4.mono HBR.out.size)); have k0 := (hb4.cell (p := ⟨b, o + k * 3, none⟩) (Nat.lt_of_lt_of_le hbb HBR.out.size)).trans k0; clear hb4)
                  | fail)
                obtain ⟨W5, hW5⟩ : ∃ W5, W5 = w4.alloc (.cells #[.int .u64 (zt : Int), .int .i64 zk, .string (str zx)] 62) := ⟨_, rfl⟩
                have e0 : W5.cell? ⟨w4.heap.size, 0, none⟩ = some (.int .u64 (zt : Int)) := by rw [hW5]; exact cell_of_row _ _ 0 _ _ _ (heap_alloc_new w4 _)
                have k0 : W5.cell? ⟨b, o + k * 3, none⟩ = some (.int .u64 (zt : Int)) := by rw [hW5]; exact ((((Below.refl w4.heap.size w4).alloc (Nat.le_refl _) _).cell (p := ⟨b, o + k * 3, none⟩) (Nat.lt_of_lt_of_le hbb HB4.out.size))).trans k0
                have HB5 : Hid (Below w.heap.size w W5) := Lib.hid (by rw [hW5]; exact HB4.out.alloc HB4.out.size _)
                rw [← hW5]
                clear hW5
                go_quiet (fail)
                go_wp2_with (fail)
                have hkn := HKN.out
                have hab := HAB.out
                have ha := HA.out
                refine ⟨⟨k + 1, by go_num, by omega, Lib.hid (.inl ⟨by omega, HB5.out.trans ((drewN_below _ _).mono HB5.out.size), ?_, ?_⟩)⟩, by simp [intOf]; omega⟩
                · have := HZL.out; omega
                · have := HE.out
                  rw [show max (prev + (k + 1)) t.base = a + 1 by omega, show a + 1 - prev = k + 1 by omega]
                  exact this
              · have q6 : ((zt : Int) == (xt : Int)) = false := by simp; omega
                have q7 : decide ((zt : Int) = (xt : Int)) = false := by simp; omega
                have q8 : decide (zt = xt) = false := by simpa using hzx
                rw [if_neg (by simpa using hzx)] at hE
                have HE := Lib.hid hE
                clear hE
                go_wp2_with (first
                  | (go_at_call 46; refine HG.out.mono ?_; rintro e w4 ⟨rfl, hb4⟩; have HB4 := Lib.hid (HBR.out.trans (hb4.mono HBR.out.size)); have k0 := (hb4.cell (p := ⟨b, o + k * 3, none⟩) (Nat.lt_of_lt_of_le hbb HBR.out.size)).trans k0; clear hb4)
                  | fail)
                obtain ⟨W5, hW5⟩ : ∃ W5, W5 = w4.alloc (.cells #[.int .u64 (zt : Int), .int .i64 zk, .string (str zx)] 62) := ⟨_, rfl⟩
                have e0 : W5.cell? ⟨w4.heap.size, 0, none⟩ = some (.int .u64 (zt : Int)) := by rw [hW5]; exact cell_of_row _ _ 0 _ _ _ (heap_alloc_new w4 _)
                have k0 : W5.cell? ⟨b, o + k * 3, none⟩ = some (.int .u64 (xt : Int)) := by rw [hW5]; exact ((((Below.refl w4.heap.size w4).alloc (Nat.le_refl _) _).cell (p := ⟨b, o + k * 3, none⟩) (Nat.lt_of_lt_of_le hbb HB4.out.size))).trans k0
                have HB5 : Hid (Below w.heap.size w W5) := Lib.hid (by rw [hW5]; exact HB4.out.alloc HB4.out.size _)
                rw [← hW5]
                clear hW5
                go_quiet (fail)
                rename_i nq
                obtain ⟨WX, hWX⟩ : ∃ WX, WX = W5.drewN nq := ⟨_, rfl⟩
                have HBX : Hid (Below w.heap.size w WX) := Lib.hid (by rw [hWX]; exact HB5.out.trans ((drewN_below _ _).mono HB5.out.size))
                rw [← hWX]
                clear hWX c0 k0 k1 k2 e0
                go_wp2_with (fail)
                obtain ⟨s, hs⟩ : ∃ s, s = a - t.base := ⟨_, rfl⟩
                have u1 : (prev : Int) + 1 + (k : Int) - (t.base : Int) = (s : Int) + 1 := by have := HA.out; have := HAB.out; omega
                have u2 : IntKind.u64.wrap ((prev : Int) + 1 + (k : Int) - (t.base : Int)) = (s : Int) + 1 := by rw [u64w _ (by omega) (by omega)]; exact u1
                have hsl : s ≤ t.l.length := by have := HAL.out; unfold Cv.last at this; omega
                have hscI : (s : Int) ≤ 4096 := by have := HRM.out; omega
                have hslI : (s : Int) ≤ (t.l.length : Int) := by omega
                have hsc : s ≤ c := Nat.le_trans hsl HH.out.rd.1
                have hkc : ¬ c2 = k := by have := HZC.out; have := HKN.out; omega
                have hkc2 : k ≤ c2 := by have := HZC.out; have := HKN.out; omega
                have hkn2 : k ≤ n := by have := HKN.out; omega
                have HGX := Lib.hid HH.out.lt
                have c0 := (HH.out.below HBX.out).c0
                have c1 := (HH.out.below HBX.out).c1
                have c2x := (HH.out.below HBX.out).c2
                have HS := Lib.hid hs
                have HSL := Lib.hid hsl
                have HLD : Hid ((l.drop k).length = n - k) := Lib.hid (by rw [List.length_drop, HLN.out])
                have HJN := Lib.hid (fun W (hb : Below w.heap.size w W) => by
                  have hy := ((HL.out.below hb).more hb.size).drop3 HLN.out hkn2
                  simp only [Option.map_some, addOff] at hy
                  exact joined_any (w := W) t.old ((HH.out.below hb).rd.take3 rfl hsl) hy (by rw [List.length_take]; omega) HLD.out (by have := HRM.out; omega) (by have := HFW.out; omega))
                have HSJ : Hid (t.stop a (l.drop k) = jstop t.old (t.l.take s) (l.drop k)) := Lib.hid (by rw [stop_join HAB.out HAL.out, hs])
                unfold Joined at HJN
                clear hs hsl
                refine wp_grow [([0, 1, 2, 3, 4, 5, 6, 7, 8, 9, 10, 11, 12, 13, 14, 15, 16, 17, 18], 19)] [20, 21, 22, 23, 24] (by kernel_rfl) (by kernel_rfl) (fun d _ _ _ _ h => by cases d <;> exact h) fun wd hbd => ?_
                intro q hq
                have F0 := fun z => ((hq z).cell (p := ⟨g, 0, none⟩) (Nat.lt_of_lt_of_le HGX.out HBX.out.size)).trans c0
                have F1 := fun z => ((hq z).cell (p := ⟨g, 1, none⟩) (Nat.lt_of_lt_of_le HGX.out HBX.out.size)).trans c1
                have F2 := fun z => ((hq z).cell (p := ⟨g, 2, none⟩) (Nat.lt_of_lt_of_le HGX.out HBX.out.size)).trans c2x
                simp only [pickI, Option.toList_some, List.cons_append, List.nil_append, List.getElem?_toArray, List.getElem?_cons_succ, List.getElem?_cons_zero]
                try go_frame
                repeat (go_big_quiet_step (fail))
                refine wpQuiet_nil ?_
                clear hq q F0 F1 F2
                refine seg_op (by simp only [List.getElem?_toArray, List.getElem?_cons_succ, List.getElem?_cons_zero]; rfl) fun K hK => ?_
                go_simp
                have zd := HBX.out.trans (hbd.mono HBX.out.size)
                refine (HJN.out wd zd).mono ?_
                rintro e w6 ⟨A6, n6, c6, rfl, hb6, ho6⟩
                have HO6 := Lib.hid ho6
                have HB6 := Lib.hid (zd.trans (hb6.mono zd.size))
                have HZD := Lib.hid zd.size
                refine hK.out _ _ (seg_keep (hbd.trans (hb6.mono hbd.size)) ?_)
                clear hK K ho6 hb6 zd
                try go_frame
                have hj3 := jstop_cases t.old (t.l.take s) (l.drop k)
                have HTK : Hid (t.takes prev term l = (t.stop a (l.drop k) == 0) ∧ t.take prev term l = t.put a (l.drop k)) := Lib.hid (by unfold Cv.takes Cv.take; rw [HMT.out, HE.out]; exact ⟨rfl, rfl⟩)
                rw [HSJ.out] at HTK
                have HPU : Hid (jstop t.old (t.l.take s) (l.drop k) = 0 → t.put a (l.drop k) = { t with l := t.l.take s ++ l.drop k } ∧ (t.l.take s ++ l.drop k).length ≤ 4096 ∧ t.base + (t.l.take s ++ l.drop k).length < 9000000000000000000) := Lib.hid (by
                  intro e
                  refine ⟨?_, ?_, ?_⟩
                  · unfold Cv.put
                    rw [HSJ.out, if_pos e]
                    unfold Cv.set
                    rw [HS.out]
                  · unfold jstop at e
                    split at e
                    · cases e
                    · rw [List.length_append]; omega
                  · rw [List.length_append, List.length_take, HLD.out]
                    have := HBD.out
                    have := HAL.out
                    have := HAB.out
                    have := HS.out
                    have := HFW.out
                    unfold Cv.last at *
                    omega)
                generalize jstop t.old (t.l.take s) (l.drop k) = js at *
                rcases hj3 with rfl | rfl | rfl
                · skip
                  intro q hq
                  simp only [pickI, Option.toList_some, List.cons_append, List.nil_append, List.getElem?_toArray, List.getElem?_cons_succ, List.getElem?_cons_zero]
                  repeat (go_big_quiet_step (fail))
                  refine wpQuiet_nil ?_
                  clear hq q
                  obtain ⟨rfl, hown⟩ := HO6.out rfl
                  have h6 := HH.out.below HB6.out
                  have f2 := h6.fr 2
                  have e2 := h6.c2
                  obtain ⟨h7, h8, h9⟩ := HPU.out rfl
                  have hm := HH.out.items (l2 := t.l.take s ++ l.drop k) HB6.out (ownsRow_low hown HZD.out) h8 h9
                  rw [← h7] at hm
                  obtain ⟨m6, hm6⟩ : ∃ m6, m6 = (t.l.take s ++ l.drop k).length := ⟨_, rfl⟩
                  rw [← hm6] at hm ⊢
                  have HM := Lib.hid hm
                  have HPT := Lib.hid HTK.out.2
                  have HTT := Lib.hid HTK.out.1
                  clear hm hown h6 h7 h8 h9 hm6 u1 u2
                  go_wp2_with (fail)
                  refine ⟨⟨n + 1, by go_num, Nat.le_refl _, Lib.hid (.inr ⟨rfl, ?_, ?_⟩)⟩, ?_⟩
                  · rw [HTT.out]; rfl
                  · rw [HPT.out]; exact HM.out
                  · have := HKN.out; simp [intOf]; omega
                · skip
                  intro q hq
                  simp only [pickI, Option.toList_some, List.cons_append, List.nil_append, List.getElem?_toArray, List.getElem?_cons_succ, List.getElem?_cons_zero]
                  repeat (go_big_quiet_step (fail))
                  refine wpQuiet_nil ?_
                  clear hq q u1 u2
                  go_wp2_with (fail)
                  go_ret2
                  unfold RTakes
                  rw [HTK.out.1, HTK.out.2]
                  have hpu : t.put a (l.drop k) = t := put_id (by rw [HSJ.out]; decide)
                  rw [hpu]
                  exact ⟨rfl, RMv.same HH.out HB6.out⟩
                · skip
                  intro q hq
                  simp only [pickI, Option.toList_some, List.cons_append, List.nil_append, List.getElem?_toArray, List.getElem?_cons_succ, List.getElem?_cons_zero]
                  repeat (go_big_quiet_step (fail))
                  refine wpQuiet_nil ?_
                  clear hq q u1 u2
                  go_wp2_with (fail)
                  go_ret2
                  unfold RTakes
                  rw [HTK.out.1, HTK.out.2]
                  have hpu : t.put a (l.drop k) = t := put_id (by rw [HSJ.out]; decide)
                  rw [hpu]
                  exact ⟨rfl, RMv.same HH.out HB6.out⟩

        · have d5 : decide ((k : Int) < (n : Int)) = false := by simp; omega
          have hkI : ¬ (k : Int) < (n : Int) := by omega
          have hN : ∃ N1 : Nat, N1 = prev + n := ⟨_, rfl⟩
          obtain ⟨N1, hN1⟩ := hN
          have wn : IntKind.u64.wrap (n : Int) = (n : Int) := u64w _ (by omega) (by omega)
          have wp : IntKind.u64.wrap ((prev : Int) + (n : Int)) = (N1 : Int) := by rw [u64w _ (by omega) (by omega)]; omega
          have ws : (prev : Int) + (n : Int) = (N1 : Int) := by omega
          obtain ⟨T, hT⟩ : ∃ T, T = max N1 t.base := ⟨_, rfl⟩
          have m3 : max (N1 : Int) (t.base : Int) = (T : Int) := by omega
          have HTT : Hid (t.takeTo prev l = T) := Lib.hid (by unfold Cv.takeTo; rw [HLN.out, hT, hN1])
          have key : t.takes prev term l = true ∧ ∃ A' c', Rk wr g A' c' (t.take prev term l) ∧ RMv w g A t.l.length (t.take prev term l) wr ∧ wr.cell? ⟨g, 0, none⟩ = some (.int .u64 (t.base : Int)) := by
            rcases HJ.out with ⟨h1, h2, h3, h4⟩ | ⟨h1, h2, h3⟩
            · have hlE : t.left prev l = none := by
                rw [h4, List.drop_eq_nil_of_le (by rw [HLN.out]; omega)]
                rfl
              have e1 : t.take prev term l = t := by unfold Cv.take; rw [HMT.out, hlE]; rfl
              refine ⟨by unfold Cv.takes; rw [HMT.out, hlE]; rfl, A, c, ?_⟩
              rw [e1]
              exact ⟨HH.out.below h2, RMv.same HH.out h2, (HH.out.below h2).c0⟩
            · obtain ⟨A', c', r1, r2, r3⟩ := h3
              have hbz : (t.take prev term l).base = t.base := take_base t prev term l
              refine ⟨h2, A', c', r1, ⟨A', c', r1, r2, r3⟩, ?_⟩
              have := r1.c0
              rwa [hbz] at this
          obtain ⟨hta, A', c', _, hrm, c0⟩ := key
          have HTA := Lib.hid hta
          have HRM2 := Lib.hid hrm
          clear hta hrm hlt hN1 hT HJ hk
          go_wp2_with (fail)
          go_ret2
          unfold RTakes
          rw [HTA.out, HTT.out]
          exact ⟨rfl, HRM2.out⟩
    · obtain rfl : term = ov := hov.symm
      have d3 : decide ((t.base : Int) ≤ (prev : Int)) = true := by simp; omega
      have d4 : decide (t.base ≤ prev) = true := by simp; omega
      go_enter Try.func17, Try.ntmps17
      go_wp2_with (first
        | (go_at_call 38; refine HLA.out.mono ?_; rintro e w2 ⟨rfl, hb2⟩; have HB2 := Lib.hid hb2; clear hb2)
        | (go_at_call 45; refine (HT2.out _ HB2.out).mono ?_; rintro e w3 ⟨rfl, hb3⟩; have HB3 := Lib.hid (HB2.out.trans (hb3.mono HB2.out.size)); have c0 := (HH.out.below HB3.out).c0; clear hb3)
        | fail)
      clear c0
      go_loopw [12] (fun kr wr => ∃ k : Nat, kr = .int .i64 (k : Int) ∧ k ≤ n + 1 ∧ Hid (RJ w wr g A t prev term n l k)) (fun kr _ => n + 1 - (intOf kr).toNat)
      case atStart => exact ⟨0, rfl, Nat.zero_le _, Lib.hid (.inl ⟨Nat.zero_le _, HB3.out, HJ0.out.1, HJ0.out.2⟩)⟩
      case round =>
        obtain ⟨k, rfl, hk, HJ⟩ := hrel
        by_cases hlt : k < n
        · obtain ⟨hbr, hle, hleft⟩ : Below w.heap.size w wr ∧ max (prev + k) t.base ≤ t.last ∧ t.left prev l = t.differ (max (prev + k) t.base) (l.drop (max (prev + k) t.base - prev)) := by
            rcases HJ.out with ⟨_, h2, h3, h4⟩ | ⟨h1, _⟩
            · exact ⟨h2, h3, h4⟩
            · omega
          have HBR := Lib.hid hbr
          have HLE := Lib.hid hle
          have HLF := Lib.hid hleft
          have c0 := (HH.out.below hbr).c0
          have kI : (k : Int) < (n : Int) := by omega
          have d5 : decide ((k : Int) < (n : Int)) = true := by simpa using kI
          have HKN := Lib.hid hlt
          clear hbr hle hleft HJ
          by_cases hib : prev + 1 + k ≤ t.base
          · exact absurd hib (by omega)
          · have d6 : ¬ (prev : Int) + 1 + (k : Int) ≤ (t.base : Int) := by omega
            have d7 : decide ((prev : Int) + 1 + (k : Int) ≤ (t.base : Int)) = false := by simpa using d6
            obtain ⟨a, ha⟩ : ∃ a, a = prev + k := ⟨_, rfl⟩
            have hab : t.base ≤ a := by omega
            have haw : max (prev + k) t.base = a := by omega
            obtain ⟨x, hx⟩ : ∃ x, l[k]? = some x := ⟨_, List.getElem?_eq_getElem (by have := HLN.out; omega)⟩
            have hE := HLF.out
            rw [haw, show a - prev = k by omega, differ_at hx] at hE
            have haL : a ≤ t.last := by have := HLE.out; omega
            have hG := rget_any (HH.out.below HBR.out) (a + 1)
            rw [show ((a + 1 : Nat) : Int) = (prev : Int) + 1 + (k : Int) by omega] at hG
            unfold Got at hG
            have htm : t.tm (a + 1) = (t.at_ (a + 1)).map It.tm := by unfold Cv.tm; rw [if_neg (by omega)]
            rw [htm] at hE
            have HGT := Lib.hid (fun z (hz : t.at_ (a + 1) = some z) => show a + 1 ≤ t.last by
              rcases Nat.lt_or_ge t.last (a + 1) with h1 | h1
              · rw [at_far h1] at hz; cases hz
              · exact h1)
            obtain ⟨b, o, rfl, hbb, _⟩ := HL.out.2.2.2 (by omega)
            have k0 := (HL.out.below HBR.out).item HLN.out hx
            obtain ⟨b', o', hA', hbb', k0, k1, k2⟩ := k0
            cases hA'
            have HA := Lib.hid ha
            have HAB := Lib.hid hab
            have HAL := Lib.hid haL
            have HIB := Lib.hid hib
            have HZC : Hid (n ≤ c2) := Lib.hid HL.out.1
            clear hlt hib hx ha hab haw haL htm
            obtain ⟨xt, xk, xx⟩ := x
            dsimp only at *
            cases hoz : t.at_ (a + 1) with
            | none =>
              rw [hoz] at hG hE
              rw [if_neg (by simp)] at hE
              simp only [Option.getD_none, Option.isSome_none, itNil, It.cells] at hG
              have HG := Lib.hid hG
              have HE := Lib.hid hE
              clear hG hE hoz
              go_wp2_with (first
                | (go_at_call 46; refine HG.out.mono ?_; rintro e w4 ⟨rfl, hb4⟩; have HB4 := Lib.hid (HBR.out.trans (hb4.mono HBR.out.size)); clear hb4)
                | fail)
              obtain ⟨W5, hW5⟩ : ∃ W5, W5 = w4.alloc (.cells #[.int .u64 0, .int .i64 0, .string (str [])] 62) := ⟨_, rfl⟩
              have HB5 : Hid (Below w.heap.size w W5) := Lib.hid (by rw [hW5]; exact HB4.out.alloc HB4.out.size _)
              try rw [← hW5]
              go_quiet (fail)
              rename_i nq
              obtain ⟨WX, hWX⟩ : ∃ WX, WX = W5.drewN nq := ⟨_, rfl⟩
              have HBX : Hid (Below w.heap.size w WX) := Lib.hid (by rw [hWX]; exact HB5.out.trans ((drewN_below _ _).mono HB5.out.size))
              rw [← hWX]
              clear hWX hW5 c0 k0 k1 k2
              go_wp2_with (fail)
              obtain ⟨s, hs⟩ : ∃ s, s = a - t.base := ⟨_, rfl⟩
              have u1 : (prev : Int) + 1 + (k : Int) - (t.base : Int) = (s : Int) + 1 := by have := HA.out; have := HAB.out; omega
              have u2 : IntKind.u64.wrap ((prev : Int) + 1 + (k : Int) - (t.base : Int)) = (s : Int) + 1 := by rw [u64w _ (by omega) (by omega)]; exact u1
              have hsl : s ≤ t.l.length := by have := HAL.out; unfold Cv.last at this; omega
              have hscI : (s : Int) ≤ 4096 := by have := HRM.out; omega
              have hslI : (s : Int) ≤ (t.l.length : Int) := by omega
              have hsc : s ≤ c := Nat.le_trans hsl HH.out.rd.1
              have hkc : ¬ c2 = k := by have := HZC.out; have := HKN.out; omega
              have hkc2 : k ≤ c2 := by have := HZC.out; have := HKN.out; omega
              have hkn2 : k ≤ n := by have := HKN.out; omega
              have HGX := Lib.hid HH.out.lt
              have c0 := (HH.out.below HBX.out).c0
              have c1 := (HH.out.below HBX.out).c1
              have c2x := (HH.out.below HBX.out).c2
              have HS := Lib.hid hs
              have HSL := Lib.hid hsl
              have HLD : Hid ((l.drop k).length = n - k) := Lib.hid (by rw [List.length_drop, HLN.out])
              have HJN := Lib.hid (fun W (hb : Below w.heap.size w W) => by
                have hy := ((HL.out.below hb).more hb.size).drop3 HLN.out hkn2
                simp only [Option.map_some, addOff] at hy
                exact joined_any (w := W) t.old ((HH.out.below hb).rd.take3 rfl hsl) hy (by rw [List.length_take]; omega) HLD.out (by have := HRM.out; omega) (by have := HFW.out; omega))
              have HSJ : Hid (t.stop a (l.drop k) = jstop t.old (t.l.take s) (l.drop k)) := Lib.hid (by rw [stop_join HAB.out HAL.out, hs])
              unfold Joined at HJN
              clear hs hsl
              refine wp_grow [([0, 1, 2, 3, 4, 5, 6, 7, 8, 9, 10, 11, 12, 13, 14, 15, 16, 17, 18], 19)] [20, 21, 22, 23, 24] (by kernel_rfl) (by kernel_rfl) (fun d _ _ _ _ h => by cases d <;> exact h) fun wd hbd => ?_
              intro q hq
              have F0 := fun z => ((hq z).cell (p := ⟨g, 0, none⟩) (Nat.lt_of_lt_of_le HGX.out HBX.out.size)).trans c0
              have F1 := fun z => ((hq z).cell (p := ⟨g, 1, none⟩) (Nat.lt_of_lt_of_le HGX.out HBX.out.size)).trans c1
              have F2 := fun z => ((hq z).cell (p := ⟨g, 2, none⟩) (Nat.lt_of_lt_of_le HGX.out HBX.out.size)).trans c2x
              simp only [pickI, Option.toList_some, List.cons_append, List.nil_append, List.getElem?_toArray, List.getElem?_cons_succ, List.getElem?_cons_zero]
              try go_frame
              repeat (go_big_quiet_step (fail))
              refine wpQuiet_nil ?_
              clear hq q F0 F1 F2
              refine seg_op (by simp only [List.getElem?_toArray, List.getElem?_cons_succ, List.getElem?_cons_zero]; rfl) fun K hK => ?_
              go_simp
              have zd := HBX.out.trans (hbd.mono HBX.out.size)
              refine (HJN.out wd zd).mono ?_
              rintro e w6 ⟨A6, n6, c6, rfl, hb6, ho6⟩
              have HO6 := Lib.hid ho6
              have HB6 := Lib.hid (zd.trans (hb6.mono zd.size))
              have HZD := Lib.hid zd.size
              refine hK.out _ _ (seg_keep (hbd.trans (hb6.mono hbd.size)) ?_)
              clear hK K ho6 hb6 zd
              try go_frame
              have hj3 := jstop_cases t.old (t.l.take s) (l.drop k)
              have HTK : Hid (t.takes prev term l = (t.stop a (l.drop k) == 0) ∧ t.take prev term l = t.put a (l.drop k)) := Lib.hid (by unfold Cv.takes Cv.take; rw [HMT.out, HE.out]; exact ⟨rfl, rfl⟩)
              rw [HSJ.out] at HTK
              have HPU : Hid (jstop t.old (t.l.take s) (l.drop k) = 0 → t.put a (l.drop k) = { t with l := t.l.take s ++ l.drop k } ∧ (t.l.take s ++ l.drop k).length ≤ 4096 ∧ t.base + (t.l.take s ++ l.drop k).length < 9000000000000000000) := Lib.hid (by
                intro e
                refine ⟨?_, ?_, ?_⟩
                · unfold Cv.put
                  rw [HSJ.out, if_pos e]
                  unfold Cv.set
                  rw [HS.out]
                · unfold jstop at e
                  split at e
                  · cases e
                  · rw [List.length_append]; omega
                · rw [List.length_append, List.length_take, HLD.out]
                  have := HBD.out
                  have := HAL.out
                  have := HAB.out
                  have := HS.out
                  have := HFW.out
                  unfold Cv.last at *
                  omega)
              generalize jstop t.old (t.l.take s) (l.drop k) = js at *
              rcases hj3 with rfl | rfl | rfl
              · skip
                intro q hq
                simp only [pickI, Option.toList_some, List.cons_append, List.nil_append, List.getElem?_toArray, List.getElem?_cons_succ, List.getElem?_cons_zero]
                repeat (go_big_quiet_step (fail))
                refine wpQuiet_nil ?_
                clear hq q
                obtain ⟨rfl, hown⟩ := HO6.out rfl
                have h6 := HH.out.below HB6.out
                have f2 := h6.fr 2
                have e2 := h6.c2
                obtain ⟨h7, h8, h9⟩ := HPU.out rfl
                have hm := HH.out.items (l2 := t.l.take s ++ l.drop k) HB6.out (ownsRow_low hown HZD.out) h8 h9
                rw [← h7] at hm
                obtain ⟨m6, hm6⟩ : ∃ m6, m6 = (t.l.take s ++ l.drop k).length := ⟨_, rfl⟩
                rw [← hm6] at hm ⊢
                have HM := Lib.hid hm
                have HPT := Lib.hid HTK.out.2
                have HTT := Lib.hid HTK.out.1
                clear hm hown h6 h7 h8 h9 hm6 u1 u2
                go_wp2_with (fail)
                refine ⟨⟨n + 1, by go_num, Nat.le_refl _, Lib.hid (.inr ⟨rfl, ?_, ?_⟩)⟩, ?_⟩
                · rw [HTT.out]; rfl
                · rw [HPT.out]; exact HM.out
                · have := HKN.out; simp [intOf]; omega
              · skip
                intro q hq
                simp only [pickI, Option.toList_some, List.cons_append, List.nil_append, List.getElem?_toArray, List.getElem?_cons_succ, List.getElem?_cons_zero]
                repeat (go_big_quiet_step (fail))
                refine wpQuiet_nil ?_
                clear hq q u1 u2
                go_wp2_with (fail)
                go_ret2
                unfold RTakes
                rw [HTK.out.1, HTK.out.2]
                have hpu : t.put a (l.drop k) = t := put_id (by rw [HSJ.out]; decide)
                rw [hpu]
                exact ⟨rfl, RMv.same HH.out HB6.out⟩
              · skip
                intro q hq
                simp only [pickI, Option.toList_some, List.cons_append, List.nil_append, List.getElem?_toArray, List.getElem?_cons_succ, List.getElem?_cons_zero]
                repeat (go_big_quiet_step (fail))
                refine wpQuiet_nil ?_
                clear hq q u1 u2
                go_wp2_with (fail)
                go_ret2
                unfold RTakes
                rw [HTK.out.1, HTK.out.2]
                have hpu : t.put a (l.drop k) = t := put_id (by rw [HSJ.out]; decide)
                rw [hpu]
                exact ⟨rfl, RMv.same HH.out HB6.out⟩

            | some z =>
              rw [hoz] at hG hE
              simp only [Option.getD_some, Option.isSome_some, Option.map_some, It.cells] at hG hE
              have HG := Lib.hid hG
              have hzl := HGT.out z hoz
              have HZL := Lib.hid hzl
              clear hG hoz hzl
              obtain ⟨zt, zk, zx⟩ := z
              dsimp only at *
              by_cases hzx : zt = xt
              · subst hzx
                rw [if_pos rfl] at hE
                have HE := Lib.hid hE
                clear hE
                go_wp2_with (first
                  | (go_at_call 46; refine HG.out.mono ?_; rintro e w4 ⟨rfl, hb4⟩; have HB4 := Lib.hid (HBR.out.trans (hb4.mono HBR.out.size)); have k0 := (hb4.cell (p := ⟨b, o + k * 3, none⟩) (Nat.lt_of_lt_of_le hbb HBR.out.size)).trans k0; clear hb4)
                  | fail)
                obtain ⟨W5, hW5⟩ : ∃ W5, W5 = w4.alloc (.cells #[.int .u64 (zt : Int), .int .i64 zk, .string (str zx)] 62) := ⟨_, rfl⟩
                have e0 : W5.cell? ⟨w4.heap.size, 0, none⟩ = some (.int .u64 (zt : Int)) := by rw [hW5]; exact cell_of_row _ _ 0 _ _ _ (heap_alloc_new w4 _)
                have k0 : W5.cell? ⟨b, o + k * 3, none⟩ = some (.int .u64 (zt : Int)) := by rw [hW5]; exact ((((Below.refl w4.heap.size w4).alloc (Nat.le_refl _) _).cell (p := ⟨b, o + k * 3, none⟩) (Nat.lt_of_lt_of_le hbb HB4.out.size))).trans k0
                have HB5 : Hid (Below w.heap.size w W5) := Lib.hid (by rw [hW5]; exact HB4.out.alloc HB4.out.size _)
                rw [← hW5]
                clear hW5
                go_quiet (fail)
                go_wp2_with (fail)
                have hkn := HKN.out
                have hab := HAB.out
                have ha := HA.out
                refine ⟨⟨k + 1, by go_num, by omega, Lib.hid (.inl ⟨by omega, HB5.out.trans ((drewN_below _ _).mono HB5.out.size), ?_, ?_⟩)⟩, by simp [intOf]; omega⟩
                · have := HZL.out; omega
                · have := HE.out
                  rw [show max (prev + (k + 1)) t.base = a + 1 by omega, show a + 1 - prev = k + 1 by omega]
                  exact this
              · have q6 : ((zt : Int) == (xt : Int)) = false := by simp; omega
                have q7 : decide ((zt : Int) = (xt : Int)) = false := by simp; omega
                have q8 : decide (zt = xt) = false := by simpa using hzx
                rw [if_neg (by simpa using hzx)] at hE
                have HE := Lib.hid hE
                clear hE
                go_wp2_with (first
                  | (go_at_call 46; refine HG.out.mono ?_; rintro e w4 ⟨rfl, hb4⟩; have HB4 := Lib.hid (HBR.out.trans (hb4.mono HBR.out.size)); have k0 := (hb4.cell (p := ⟨b, o + k * 3, none⟩) (Nat.lt_of_lt_of_le hbb HBR.out.size)).trans k0; clear hb4)
                  | fail)
                obtain ⟨W5, hW5⟩ : ∃ W5, W5 = w4.alloc (.cells #[.int .u64 (zt : Int), .int .i64 zk, .string (str zx)] 62) := ⟨_, rfl⟩
                have e0 : W5.cell? ⟨w4.heap.size, 0, none⟩ = some (.int .u64 (zt : Int)) := by rw [hW5]; exact cell_of_row _ _ 0 _ _ _ (heap_alloc_new w4 _)
                have k0 : W5.cell? ⟨b, o + k * 3, none⟩ = some (.int .u64 (xt : Int)) := by rw [hW5]; exact ((((Below.refl w4.heap.size w4).alloc (Nat.le_refl _) _).cell (p := ⟨b, o + k * 3, none⟩) (Nat.lt_of_lt_of_le hbb HB4.out.size))).trans k0
                have HB5 : Hid (Below w.heap.size w W5) := Lib.hid (by rw [hW5]; exact HB4.out.alloc HB4.out.size _)
                rw [← hW5]
                clear hW5
                go_quiet (fail)
                rename_i nq
                obtain ⟨WX, hWX⟩ : ∃ WX, WX = W5.drewN nq := ⟨_, rfl⟩
                have HBX : Hid (Below w.heap.size w WX) := Lib.hid (by rw [hWX]; exact HB5.out.trans ((drewN_below _ _).mono HB5.out.size))
                rw [← hWX]
                clear hWX c0 k0 k1 k2 e0
                go_wp2_with (fail)
                obtain ⟨s, hs⟩ : ∃ s, s = a - t.base := ⟨_, rfl⟩
                have u1 : (prev : Int) + 1 + (k : Int) - (t.base : Int) = (s : Int) + 1 := by have := HA.out; have := HAB.out; omega
                have u2 : IntKind.u64.wrap ((prev : Int) + 1 + (k : Int) - (t.base : Int)) = (s : Int) + 1 := by rw [u64w _ (by omega) (by omega)]; exact u1
                have hsl : s ≤ t.l.length := by have := HAL.out; unfold Cv.last at this; omega
                have hscI : (s : Int) ≤ 4096 := by have := HRM.out; omega
                have hslI : (s : Int) ≤ (t.l.length : Int) := by omega
                have hsc : s ≤ c := Nat.le_trans hsl HH.out.rd.1
                have hkc : ¬ c2 = k := by have := HZC.out; have := HKN.out; omega
                have hkc2 : k ≤ c2 := by have := HZC.out; have := HKN.out; omega
                have hkn2 : k ≤ n := by have := HKN.out; omega
                have HGX := Lib.hid HH.out.lt
                have c0 := (HH.out.below HBX.out).c0
                have c1 := (HH.out.below HBX.out).c1
                have c2x := (HH.out.below HBX.out).c2
                have HS := Lib.hid hs
                have HSL := Lib.hid hsl
                have HLD : Hid ((l.drop k).length = n - k) := Lib.hid (by rw [List.length_drop, HLN.out])
                have HJN := Lib.hid (fun W (hb : Below w.heap.size w W) => by
                  have hy := ((HL.out.below hb).more hb.size).drop3 HLN.out hkn2
                  simp only [Option.map_some, addOff] at hy
                  exact joined_any (w := W) t.old ((HH.out.below hb).rd.take3 rfl hsl) hy (by rw [List.length_take]; omega) HLD.out (by have := HRM.out; omega) (by have := HFW.out; omega))
                have HSJ : Hid (t.stop a (l.drop k) = jstop t.old (t.l.take s) (l.drop k)) := Lib.hid (by rw [stop_join HAB.out HAL.out, hs])
                unfold Joined at HJN
                clear hs hsl
                refine wp_grow [([0, 1, 2, 3, 4, 5, 6, 7, 8, 9, 10, 11, 12, 13, 14, 15, 16, 17, 18], 19)] [20, 21, 22, 23, 24] (by kernel_rfl) (by kernel_rfl) (fun d _ _ _ _ h => by cases d <;> exact h) fun wd hbd => ?_
                intro q hq
                have F0 := fun z => ((hq z).cell (p := ⟨g, 0, none⟩) (Nat.lt_of_lt_of_le HGX.out HBX.out.size)).trans c0
                have F1 := fun z => ((hq z).cell (p := ⟨g, 1, none⟩) (Nat.lt_of_lt_of_le HGX.out HBX.out.size)).trans c1
                have F2 := fun z => ((hq z).cell (p := ⟨g, 2, none⟩) (Nat.lt_of_lt_of_le HGX.out HBX.out.size)).trans c2x
                simp only [pickI, Option.toList_some, List.cons_append, List.nil_append, List.getElem?_toArray, List.getElem?_cons_succ, List.getElem?_cons_zero]
                try go_frame
                repeat (go_big_quiet_step (fail))
                refine wpQuiet_nil ?_
                clear hq q F0 F1 F2
                refine seg_op (by simp only [List.getElem?_toArray, List.getElem?_cons_succ, List.getElem?_cons_zero]; rfl) fun K hK => ?_
                go_simp
                have zd := HBX.out.trans (hbd.mono HBX.out.size)
                refine (HJN.out wd zd).mono ?_
                rintro e w6 ⟨A6, n6, c6, rfl, hb6, ho6⟩
                have HO6 := Lib.hid ho6
                have HB6 := Lib.hid (zd.trans (hb6.mono zd.size))
                have HZD := Lib.hid zd.size
                refine hK.out _ _ (seg_keep (hbd.trans (hb6.mono hbd.size)) ?_)
                clear hK K ho6 hb6 zd
                try go_frame
                have hj3 := jstop_cases t.old (t.l.take s) (l.drop k)
                have HTK : Hid (t.takes prev term l = (t.stop a (l.drop k) == 0) ∧ t.take prev term l = t.put a (l.drop k)) := Lib.hid (by unfold Cv.takes Cv.take; rw [HMT.out, HE.out]; exact ⟨rfl, rfl⟩)
                rw [HSJ.out] at HTK
                have HPU : Hid (jstop t.old (t.l.take s) (l.drop k) = 0 → t.put a (l.drop k) = { t with l := t.l.take s ++ l.drop k } ∧ (t.l.take s ++ l.drop k).length ≤ 4096 ∧ t.base + (t.l.take s ++ l.drop k).length < 9000000000000000000) := Lib.hid (by
                  intro e
                  refine ⟨?_, ?_, ?_⟩
                  · unfold Cv.put
                    rw [HSJ.out, if_pos e]
                    unfold Cv.set
                    rw [HS.out]
                  · unfold jstop at e
                    split at e
                    · cases e
                    · rw [List.length_append]; omega
                  · rw [List.length_append, List.length_take, HLD.out]
                    have := HBD.out
                    have := HAL.out
                    have := HAB.out
                    have := HS.out
                    have := HFW.out
                    unfold Cv.last at *
                    omega)
                generalize jstop t.old (t.l.take s) (l.drop k) = js at *
                rcases hj3 with rfl | rfl | rfl
                · skip
                  intro q hq
                  simp only [pickI, Option.toList_some, List.cons_append, List.nil_append, List.getElem?_toArray, List.getElem?_cons_succ, List.getElem?_cons_zero]
                  repeat (go_big_quiet_step (fail))
                  refine wpQuiet_nil ?_
                  clear hq q
                  obtain ⟨rfl, hown⟩ := HO6.out rfl
                  have h6 := HH.out.below HB6.out
                  have f2 := h6.fr 2
                  have e2 := h6.c2
                  obtain ⟨h7, h8, h9⟩ := HPU.out rfl
                  have hm := HH.out.items (l2 := t.l.take s ++ l.drop k) HB6.out (ownsRow_low hown HZD.out) h8 h9
                  rw [← h7] at hm
                  obtain ⟨m6, hm6⟩ : ∃ m6, m6 = (t.l.take s ++ l.drop k).length := ⟨_, rfl⟩
                  rw [← hm6] at hm ⊢
                  have HM := Lib.hid hm
                  have HPT := Lib.hid HTK.out.2
                  have HTT := Lib.hid HTK.out.1
                  clear hm hown h6 h7 h8 h9 hm6 u1 u2
                  go_wp2_with (fail)
                  refine ⟨⟨n + 1, by go_num, Nat.le_refl _, Lib.hid (.inr ⟨rfl, ?_, ?_⟩)⟩, ?_⟩
                  · rw [HTT.out]; rfl
                  · rw [HPT.out]; exact HM.out
                  · have := HKN.out; simp [intOf]; omega
                · skip
                  intro q hq
                  simp only [pickI, Option.toList_some, List.cons_append, List.nil_append, List.getElem?_toArray, List.getElem?_cons_succ, List.getElem?_cons_zero]
                  repeat (go_big_quiet_step (fail))
                  refine wpQuiet_nil ?_
                  clear hq q u1 u2
                  go_wp2_with (fail)
                  go_ret2
                  unfold RTakes
                  rw [HTK.out.1, HTK.out.2]
                  have hpu : t.put a (l.drop k) = t := put_id (by rw [HSJ.out]; decide)
                  rw [hpu]
                  exact ⟨rfl, RMv.same HH.out HB6.out⟩
                · skip
                  intro q hq
                  simp only [pickI, Option.toList_some, List.cons_append, List.nil_append, List.getElem?_toArray, List.getElem?_cons_succ, List.getElem?_cons_zero]
                  repeat (go_big_quiet_step (fail))
                  refine wpQuiet_nil ?_
                  clear hq q u1 u2
                  go_wp2_with (fail)
                  go_ret2
                  unfold RTakes
                  rw [HTK.out.1, HTK.out.2]
                  have hpu : t.put a (l.drop k) = t := put_id (by rw [HSJ.out]; decide)
                  rw [hpu]
                  exact ⟨rfl, RMv.same HH.out HB6.out⟩

        · have d5 : decide ((k : Int) < (n : Int)) = false := by simp; omega
          have hkI : ¬ (k : Int) < (n : Int) := by omega
          have hN : ∃ N1 : Nat, N1 = prev + n := ⟨_, rfl⟩
          obtain ⟨N1, hN1⟩ := hN
          have wn : IntKind.u64.wrap (n : Int) = (n : Int) := u64w _ (by omega) (by omega)
          have wp : IntKind.u64.wrap ((prev : Int) + (n : Int)) = (N1 : Int) := by rw [u64w _ (by omega) (by omega)]; omega
          have ws : (prev : Int) + (n : Int) = (N1 : Int) := by omega
          obtain ⟨T, hT⟩ : ∃ T, T = max N1 t.base := ⟨_, rfl⟩
          have m3 : max (N1 : Int) (t.base : Int) = (T : Int) := by omega
          have HTT : Hid (t.takeTo prev l = T) := Lib.hid (by unfold Cv.takeTo; rw [HLN.out, hT, hN1])
          have key : t.takes prev term l = true ∧ ∃ A' c', Rk wr g A' c' (t.take prev term l) ∧ RMv w g A t.l.length (t.take prev term l) wr ∧ wr.cell? ⟨g, 0, none⟩ = some (.int .u64 (t.base : Int)) := by
            rcases HJ.out with ⟨h1, h2, h3, h4⟩ | ⟨h1, h2, h3⟩
            · have hlE : t.left prev l = none := by
                rw [h4, List.drop_eq_nil_of_le (by rw [HLN.out]; omega)]
                rfl
              have e1 : t.take prev term l = t := by unfold Cv.take; rw [HMT.out, hlE]; rfl
              refine ⟨by unfold Cv.takes; rw [HMT.out, hlE]; rfl, A, c, ?_⟩
              rw [e1]
              exact ⟨HH.out.below h2, RMv.same HH.out h2, (HH.out.below h2).c0⟩
            · obtain ⟨A', c', r1, r2, r3⟩ := h3
              have hbz : (t.take prev term l).base = t.base := take_base t prev term l
              refine ⟨h2, A', c', r1, ⟨A', c', r1, r2, r3⟩, ?_⟩
              have := r1.c0
              rwa [hbz] at this
          obtain ⟨hta, A', c', _, hrm, c0⟩ := key
          have HTA := Lib.hid hta
          have HRM2 := Lib.hid hrm
          clear hta hrm hlt hN1 hT HJ hk
          go_wp2_with (fail)
          go_ret2
          unfold RTakes
          rw [HTA.out, HTT.out]
          exact ⟨rfl, HRM2.out⟩
end
end Go.Proofs.Ytlpckhjmbfeegaa
