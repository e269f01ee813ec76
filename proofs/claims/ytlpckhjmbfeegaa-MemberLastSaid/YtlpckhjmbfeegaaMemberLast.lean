/- MemberLast. -/
import Derived.Test.YtlpckhjmbfeegaaFg
import Derived.Test.YtlpckhjmbfeegaaDh
namespace Go.Proofs.Ytlpckhjmbfeegaa
open Go.RowKit
set_option maxRecDepth 20000
theorem put_first {b o : Nat} {l : List It} (h : (⟨b, o, []⟩ : Cv).stop (⟨b, o, []⟩ : Cv).last l = 0) : (⟨b, o, []⟩ : Cv).put (⟨b, o, []⟩ : Cv).last l = ⟨b, o, l⟩ := by
  unfold Cv.put
  rw [if_pos h]
  unfold Cv.set
  simp
set_option maxHeartbeats 8000000 in
theorem memberLast_walk {w : World} (first : Nat) (_ : first < 18446744073709551616) (base : Nat) (_ : base < 18446744073709551616) (term : Nat) (_ : term < 18446744073709551616) {A : Option Addr} {n c : Nat} {l : List It} (h : Slc It.lay w A n c l) (i : Nat) (_ : i < 18446744073709551616) :
    Calls Try.prog 7 #[.int .u64 (first : Int), .int .u64 (base : Int), .int .u64 (term : Int), .slice A n c, .int .u64 (i : Int)] w fun e w' => e = .returned (.bool true) ∧ Below w.heap.size w w' := by
  have HRD : Hid (Rd w w.heap.size 3 A n c (its l)) := Lib.hid (by rw [← flat_its]; exact h.rd)
  have HLEN := Lib.hid h.len
  have HLV := Lib.hid lives30
  have HRN := Lib.hid (fun W => rnew_any base term W)
  have hcap := h.rd.2.1
  have hnc := h.rd.1
  have hnm : (n : Int) ≤ 9223372036854775807 := by unfold maxLen at hcap; omega
  clear h hcap hnc
  by_cases hn : 100 < n
  · have n1 : (100 : Int) < (n : Int) := by omega
    go_enter Try.func7, Try.ntmps7
    go_wp2_with (first
      | (go_at_call 35; refine (HLV.out _).mono ?_; rintro e w4 ⟨rfl, hb4⟩)
      | fail)
    go_ret
    exact ⟨rfl, hb4⟩
  have n1 : ¬ (100 : Int) < (n : Int) := by omega
  have HNN := Lib.hid (show n ≤ 100 by omega)
  clear hn
  by_cases hbs : 4611686018427387904 < base
  · have HN := Lib.hid (fun W => cnew_none base term W hbs)
    have hdn : decide (base ≤ 4611686018427387904) = false := by simp; omega
    have hbI : (4611686018427387904 : Int) < (base : Int) := by omega
    rw [hdn] at HRN
    clear hdn hbs
    go_enter Try.func7, Try.ntmps7
    go_wp2_with (first
      | (go_at_call 35; refine (HLV.out _).mono ?_; rintro e w4 ⟨rfl, hb4⟩)
      | (go_at_call 11; refine (HN.out _).mono ?_; rintro e w2 ⟨rfl, rfl⟩)
      | (go_at_call 12; refine (HRN.out _).mono ?_; rintro e w3 ⟨rfl, _, hb3⟩)
      | fail)
    go_ret
    exact ⟨rfl, hb3.trans (hb4.mono hb3.size)⟩
  have HN := Lib.hid (fun W => cnew_any base term W (by omega))
  have hdn : decide (base ≤ 4611686018427387904) = true := by simp; omega
  rw [hdn] at HRN
  have HBS := Lib.hid (show base ≤ 4611686018427387904 by omega)
  clear hdn hbs
  obtain ⟨sv, hsv⟩ : ∃ sv, sv = (⟨base, term, []⟩ : Cv).stop (⟨base, term, []⟩ : Cv).last l := ⟨_, rfl⟩
  have HSV := Lib.hid hsv
  clear hsv
  by_cases hs0 : sv = 0
  · subst hs0
    go_enter Try.func7, Try.ntmps7
    go_wp2_with (first
      | (go_at_call 11; refine (HN.out _).mono ?_; rintro e w2 ⟨rfl, hc2, hb2⟩
         have HC2 := Lib.hid hc2
         have HB2 := Lib.hid hb2
         clear hc2 hb2)
      | (go_at_call 12; refine (HRN.out _).mono ?_; rintro e w3 ⟨rfl, hr3, hb3⟩
         have HC3 := Lib.hid (HC2.out.below hb3)
         have HR3 := Lib.hid (hr3 HBS.out)
         have HB3 := Lib.hid (HB2.out.trans (hb3.mono HB2.out.size))
         have HGR := Lib.hid HB2.out.size
         have HNF : Hid (¬ Foot w.heap.size (.slice none 0 0) w2.heap.size) := Lib.hid (by
           rintro (e | e)
           · have := HC2.out.lt; omega
           · cases e)
         clear hr3 hb3)
      | (go_at_call 13
         have ha := add_any HC3.out HB3.out.size (Beside.arg HRD.out HLEN.out (by have := HNN.out; omega) HB3.out HC3.out) (by show base + 0 + n < _; have := HBS.out; have := HNN.out; omega)
         unfold Puts at ha
         rw [← HSV.out, put_first HSV.out.symm] at ha
         refine ha.mono ?_
         rintro e w4 ⟨rfl, v, hc4, hk4, hv4⟩
         have HC4 := Lib.hid hc4
         have HB4 := Lib.hid (HB3.out.trans (hk4.below HB3.out.size (fun j hj => (HC3.out.foot hj).1)))
         have HR4 := Lib.hid (HR3.out.keeps hk4 HNF.out (fun h => absurd h (Nat.lt_irrefl _)))
         have HNF4 := Lib.hid (foot_new hv4 HR3.out.lt HNF.out)
         clear ha hc4 hk4 hv4)
      | (go_at_call 15
         refine (plain_any ((HRD.out.below HB4.out).more HB4.out.size) HLEN.out (by have := HNN.out; omega)).mono ?_
         rintro e w5 ⟨A5, c5, rfl, ho5, hb5⟩
         have hr5 := HR4.out.below hb5
         have r2 : w5.cell? ⟨w2.heap.size, 2, none⟩ = some (.slice none 0 0) := hr5.c2
         have r3 := hr5.fr 2
         have hm6 := HR4.out.items hb5 ho5 (by have := HLEN.out; have := HNN.out; omega) (by show base + l.length < _; have := HBS.out; have := HLEN.out; have := HNN.out; omega)
         obtain ⟨W6, hW6⟩ : ∃ W6, W6 = w5.setCell ⟨w2.heap.size, 2, none⟩ (.slice A5 l.length c5) := ⟨_, rfl⟩
         rw [← hW6] at hm6
         have HW6 := Lib.hid hW6
         obtain ⟨A6, c6, hr6, hk6, _⟩ := hm6
         have HR6 := Lib.hid hr6
         have HC6 := Lib.hid (HC4.out.keeps hk6 (fun j hj e => HNF4.out (e ▸ hj)))
         have HB6 := Lib.hid (HB4.out.trans (hk6.below HB4.out.size (fun j hj => by rw [hj]; exact HGR.out)))
         clear ho5 hb5 hr5 hW6 hr6 hk6)
      | (go_at_call 36; rw [← HW6.out]; refine (last_told HC6.out first).mono ?_; rintro e w7 ⟨rfl, hb7⟩
         have HC7 := Lib.hid (HC6.out.below hb7)
         have HR7 := Lib.hid (HR6.out.below hb7)
         have HB7 := Lib.hid (HB6.out.trans (hb7.mono HB6.out.size))
         clear hb7 r2 r3)
      | (go_at_call 38; refine (rlast_any HR7.out).mono ?_; rintro e w8 ⟨rfl, hb8⟩
         have HC8 := Lib.hid (HC7.out.below hb8)
         have HR8 := Lib.hid (HR7.out.below hb8)
         have HB8 := Lib.hid (HB7.out.trans (hb8.mono HB7.out.size))
         have HU8 := Lib.hid (rupto_any HR8.out first (⟨base, term, l⟩ : Cv).last)
         clear hb8)
      | (go_at_call 37; refine HU8.out.mono ?_; rintro e w9 ⟨rfl, hb9⟩
         have HC9 := Lib.hid (HC8.out.below hb9)
         have HR9 := Lib.hid (HR8.out.below hb9)
         have HB9 := Lib.hid (HB8.out.trans (hb9.mono HB8.out.size))
         have HU9 := Lib.hid (rupto_any HR9.out first i)
         clear hb9 HU8)
      | (go_at_call 37; refine HU9.out.mono ?_; rintro e wa ⟨rfl, hba⟩
         have HCa := Lib.hid (HC9.out.below hba)
         have HBa := Lib.hid (HB9.out.trans (hba.mono HB9.out.size))
         have HUa := Lib.hid (upto_told HCa.out first i)
         clear hba)
      | (go_at_call 39; refine HUa.out.mono ?_; rintro e wb ⟨rfl, hbb⟩
         have HBb := Lib.hid (HBa.out.trans (hbb.mono HBa.out.size))
         clear hbb)
      | (go_at_call 35; refine (HLV.out _).mono ?_; rintro e wc ⟨rfl, hbc⟩)
      | fail)

    go_ret
    exact ⟨rfl, HBb.out.trans (hbc.mono HBb.out.size)⟩
  · go_enter Try.func7, Try.ntmps7
    go_wp2_with (first
      | (go_at_call 11; refine (HN.out _).mono ?_; rintro e w2 ⟨rfl, hc2, hb2⟩
         have HC2 := Lib.hid hc2
         have HB2 := Lib.hid hb2
         clear hc2 hb2)
      | (go_at_call 12; refine (HRN.out _).mono ?_; rintro e w3 ⟨rfl, hr3, hb3⟩
         have HC3 := Lib.hid (HC2.out.below hb3)
         have HR3 := Lib.hid (hr3 HBS.out)
         have HB3 := Lib.hid (HB2.out.trans (hb3.mono HB2.out.size))
         have HGR := Lib.hid HB2.out.size
         have HNF : Hid (¬ Foot w.heap.size (.slice none 0 0) w2.heap.size) := Lib.hid (by
           rintro (e | e)
           · have := HC2.out.lt; omega
           · cases e)
         clear hr3 hb3)
      | (go_at_call 13
         have ha := add_any HC3.out HB3.out.size (Beside.arg HRD.out HLEN.out (by have := HNN.out; omega) HB3.out HC3.out) (by show base + 0 + n < _; have := HBS.out; have := HNN.out; omega)
         unfold Puts at ha
         rw [← HSV.out] at ha
         refine ha.mono ?_
         rintro e w4 ⟨rfl, v, hc4, hk4, hv4⟩
         have HB4 := Lib.hid (HB3.out.trans (hk4.below HB3.out.size (fun j hj => (HC3.out.foot hj).1)))
         clear ha hc4 hk4 hv4)
      | (go_at_call 35; refine (HLV.out _).mono ?_; rintro e wc ⟨rfl, hbc⟩)
      | fail)
    go_ret
    exact ⟨rfl, HB4.out.trans (hbc.mono HB4.out.size)⟩
namespace memberLast
open Go.ChangeShapes Go.WideShapes Go.ChangeAt
set_option maxRecDepth 100000 in
theorem lifted (os : Os) (started : os.Started) (H : Type) (enc : TypeId × Value → H) :
    ReturnsInHanded {} Try.checked os 7 .any (Rows.memberLastSpec.pre6 enc Try.prog Try.f7 Rows.memberLastRow.domain false) (Rows.memberLastSpec.post enc Try.prog Try.f7 false true false false) := by
  refine returnsInHanded_of_change (C := Try.checked) own started (by kernel_rfl) Try.func7
    (ChangeSpec.witness6 (enc := enc) (C := Try.checked) false ⟨#[], #[.int .u64 0, .int .u64 0, .int .u64 0, .slice none 0 0, .int .u64 0], []⟩ 8 (by kernel_rfl) (by kernel_rfl) (by kernel_rfl) (by kernel_rfl)) ?_
  intro W base args ds gs before hval0 hW _ _
  have hval : ∀ (j : Nat) t v, Try.f7.params[j]? = some t → args[j]? = some v → Value.okWide Try.prog W .any base t v := hval0
  have hW' := hW
  obtain ⟨p, q, hA0, hV, rfl, hfz, hnd⟩ := hW
  have hA : DataW.TrodAll enc Try.prog W 0 (fun _ => true) true Try.f7.params.toList args.toList ds p := hA0
  rw [Try.params7] at hA hval
  obtain ⟨v0, vs0, d0, ds0, p0, q0, hargs, rfl, rfl, h0, r0⟩ := trodAll_cons hA
  obtain ⟨v1, vs1, d1, ds1, p1, q1, rfl, rfl, rfl, h1, r1⟩ := trodAll_cons r0
  obtain ⟨v2, vs2, d2, ds2, p2, q2, rfl, rfl, rfl, h2, r2⟩ := trodAll_cons r1
  obtain ⟨v3, vs3, d3, ds3, p3, q3, rfl, rfl, rfl, h3, r3⟩ := trodAll_cons r2
  obtain ⟨v4, vs4, d4, ds4, p4, q4, rfl, rfl, rfl, h4, r4⟩ := trodAll_cons r3
  obtain ⟨rfl, rfl, rfl⟩ := trodAll_nil r4
  obtain rfl : args = #[v0, v1, v2, v3, v4] := by cases args; simp_all
  obtain ⟨rfl, rfl⟩ := trodVars_none hV
  have k0 := h0
  have lt0 : ∀ x ∈ p0, x.block < W.heap.size := by obtain ⟨m, hm⟩ := k0; exact DataW.trod_lt m _ _ _ hm
  obtain ⟨x0, rfl, w0⟩ := dec_u64 Try.underlying22 (hval 0 22 v0 rfl rfl) h0
  have k1 := h1
  have lt1 : ∀ x ∈ p1, x.block < W.heap.size := by obtain ⟨m, hm⟩ := k1; exact DataW.trod_lt m _ _ _ hm
  obtain ⟨x1, rfl, w1⟩ := dec_u64 Try.underlying22 (hval 1 22 v1 rfl rfl) h1
  have k2 := h2
  have lt2 : ∀ x ∈ p2, x.block < W.heap.size := by obtain ⟨m, hm⟩ := k2; exact DataW.trod_lt m _ _ _ hm
  obtain ⟨x2, rfl, w2⟩ := dec_u64 Try.underlying22 (hval 2 22 v2 rfl rfl) h2
  have k3 := h3
  have lt3 : ∀ x ∈ p3, x.block < W.heap.size := by obtain ⟨m, hm⟩ := k3; exact DataW.trod_lt m _ _ _ hm
  obtain ⟨a3, n3, c3, l3, rfl, w3⟩ := It.dec (hval 3 31 v3 rfl rfl) h3
  have k4 := h4
  have lt4 : ∀ x ∈ p4, x.block < W.heap.size := by obtain ⟨m, hm⟩ := k4; exact DataW.trod_lt m _ _ _ hm
  obtain ⟨x4, rfl, w4⟩ := dec_u64 Try.underlying22 (hval 4 22 v4 rfl rfl) h4
  clear hA0 hval0
  refine (memberLast_walk x0 w0 x1 w1 x2 w2 w3 x4 w4).mono fun e W' ⟨he, bel⟩ => ?_
  subst he
  exact ⟨_, rfl, _, _, _, [], _, [], hW', trodAll_mk1 (shut_bool Try.underlying4 _), (trodAll_cons_mk (Below.trod laidOut (by kernel_rfl) (of_decide_eq_true (by kernel_rfl)) k0 bel lt0) (trodAll_cons_mk (Below.trod laidOut (by kernel_rfl) (of_decide_eq_true (by kernel_rfl)) k1 bel lt1) (trodAll_cons_mk (Below.trod laidOut (by kernel_rfl) (of_decide_eq_true (by kernel_rfl)) k2 bel lt2) (trodAll_cons_mk (Below.trod laidOut (by kernel_rfl) (of_decide_eq_true (by kernel_rfl)) k3 bel lt3) (trodAll_cons_mk (Below.trod laidOut (by kernel_rfl) (of_decide_eq_true (by kernel_rfl)) k4 bel lt4) trodAll_mk0))))), rfl, bel.frame _, fun h => by cases h⟩

theorem over : Rows.memberLastRow.holds Try.pinned (OpenSpec.ofChange Rows.memberLastSpec) :=
  OpenClaim.holds_of_wide 7 Try.f7 rfl rfl rfl rfl rfl rfl rfl ⟨rfl, rfl, rfl, rfl, rfl⟩ rfl rfl rfl rfl rfl (by kernel_rfl) Try.func7 (by kernel_rfl)
    (of_decide_eq_true (by kernel_rfl)) (by unfold Func.isWrapper; first | (rw [if_pos (by decide +kernel)]; kernel_rfl) | (rw [if_neg (by decide +kernel)]; exact ⟨rfl, rfl⟩))
    (fun os started H enc _ => lifted os started H enc)
/-- The given statement. -/
theorem proved : Rows.MemberLastSaid := over
end memberLast

end Go.Proofs.Ytlpckhjmbfeegaa
