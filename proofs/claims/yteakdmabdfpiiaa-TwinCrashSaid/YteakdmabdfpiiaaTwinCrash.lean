/- TwinCrash: wherever the power goes in a save, and whatever is kept of it, again and again, what was saved last is what it was, or what was to be saved: the law answers true for every list of tries. -/
import Derived.Test.YteakdmabdfpiiaaTwx
import Derived.Test.YteakdmabdfpiiaaTryd
import Derived.Test.YteakdmabdfpiiaaTwlives
import Derived.Test.YteakdmabdfpiiaaSegsZ
import Derived.LoopN
import Derived.Deep.DeepCutAuto
import Derived.Deep.CutBlock
namespace Go.Proofs.Yteakdmabdfpiiaa
set_option maxRecDepth 20000
open Go.RowKit

theorem new_stands (n : Nat) (h1 : n ≤ 65536) (base : Int) (size : Nat) : Stands base size (Dv.new n) (openTv base size ((Dv.new n).bytes base (2 * size))) ∧ (openTv base size ((Dv.new n).bytes base (2 * size))).next ≤ 1 :=
  stands_open (Dv.new_ok n h1) rfl 0 (by decide) (fun _ _ => ends_Z)

set_option maxHeartbeats 8000000 in
theorem twinCrash_at {A : Option Addr} {n c : Nat} {os : List Try_} {w : World} (h : Slc Try_.lay w A n c os) :
    Calls Try.prog 4 #[.slice A n c] w fun e w' => e = .returned (.bool true) ∧ Below w.heap.size w w' := by
  have hst := new_stands 20 (by decide) 2 3
  have hdn := dl_new 20 w (by decide) (by decide)
  have hnm := h.rd.2.1
  have hnc := h.rd.1
  have HS := Lib.hid h
  have HD := Lib.hid hdn
  have HST := Lib.hid hst
  clear hst hdn h
  go_enter Try.func4, Try.ntmps4
  go_wp2_with (first
    | (go_at_call 9; refine (lives8 _).mono ?_; rintro e w9 ⟨rfl, hb9⟩)
    | (go_at_call 10; refine HD.out.mono ?_; rintro e w1 ⟨g, rfl, hD0⟩)
    | (go_at_call 13; refine (dl_open hD0 rfl 2 3 (by decide) (by decide) (by decide) (by decide)).mono ?_; rintro e w2 ⟨T, rfl, hT0⟩)
    | fail)
  · go_ret
    exact ⟨rfl, hb9⟩
  have hn20 : n ≤ 20 := by
    have : (n : Int) ≤ 20 := by assumption
    omega
  obtain ⟨hst1, hst2⟩ := HST.out
  have HT0 := Lib.hid hT0
  have HS1 := Lib.hid hst1
  have HS2 := Lib.hid hst2
  clear hT0 hst1 hst2 hD0
  go_loopw [4, 32] (fun tr ir wr => ∃ (i T : Nat) (d : Dv) (t : Tv), i ≤ n ∧ ir = .int .i64 (i : Int) ∧ tr = .pointer (some ⟨T, 0, none⟩) ∧ Tl w wr w.heap.size g T (100 * i) d t ∧ Stands 2 3 d t ∧ d.down = false ∧ d.n = 20 ∧ t.next ≤ i + 1) (fun _ ir _ => n - (intOf ir).toNat)
  case atStart => exact ⟨0, T, _, _, Nat.zero_le _, rfl, rfl, HT0.out, HS1.out, rfl, rfl, HS2.out⟩
  case round =>
    obtain ⟨i, T', d, t, hi, rfl, rfl, hT, hSt, hdd, hdn, hnx⟩ := hrel
    by_cases hlt : i < n
    · obtain ⟨x, hx⟩ : ∃ x, os[i]? = some x := ⟨_, List.getElem?_eq_getElem (by have := HS.out.len; omega)⟩
      have hrd := HS.out.reads x (List.mem_of_getElem? hx)
      obtain ⟨b, o, rfl, hbb, hcc⟩ := HS.out.at_ (by omega)
      have hc := fun j u hu => (hT.bel.cell (p := ⟨b, o + (i * 3 + j), none⟩) hbb).trans (hcc i x hx j u hu)
      have k0 : wr.cell? ⟨b, o + i * 3, none⟩ = some (.slice x.textA x.textn x.textc) := hc 0 _ rfl
      have k1 : wr.cell? ⟨b, o + i * 3 + 1, none⟩ = some (.int .u8 x.fuse) := hc 1 _ rfl
      have k2 : wr.cell? ⟨b, o + i * 3 + 2, none⟩ = some (.slice x.keepA x.keepn x.keepc) := hc 2 _ rfl
      obtain ⟨r0, r1, r2, r3⟩ := hrd
      have hlti : (i : Int) < (n : Int) := by omega
      have hii : (i : Int) ≤ 20 := by omega
      have hw1 := r1
      simp [Lit.wf, IntKind.min, IntKind.max, IntKind.signed, IntKind.bits] at hw1
      have HT := Lib.hid hT
      have HSt := Lib.hid hSt
      have HR0 := Lib.hid r0
      have HR2 := Lib.hid r2
      have HNX := Lib.hid hnx
      have HDN := Lib.hid (And.intro hdd hdn)
      clear hc hcc hx r0 r1 r2 r3 hT hSt hnx hdd hdn
      by_cases hk : 50 < x.keepn
      · have hk2 : (50 : Int) < (x.keepn : Int) := by omega
        go_wp2_with (first
          | (go_at_call 9; refine (lives8 _).mono ?_; rintro e w9 ⟨rfl, hb9⟩)
          | fail)
        go_ret
        exact ⟨rfl, (HT.out.bel.alloc HT.out.bel.size _).trans (hb9.mono (Nat.le_trans HT.out.bel.size (by simp)))⟩
      by_cases ht : 3000 < x.textn
      · have hk2 : (x.keepn : Int) ≤ 50 := by omega
        have ht2 : (3000 : Int) < (x.textn : Int) := by omega
        go_wp2_with (first
          | (go_at_call 9; refine (lives8 _).mono ?_; rintro e w9 ⟨rfl, hb9⟩)
          | fail)
        go_ret
        exact ⟨rfl, (HT.out.bel.alloc HT.out.bel.size _).trans (hb9.mono (Nat.le_trans HT.out.bel.size (by simp)))⟩
      have hk2 : (x.keepn : Int) ≤ 50 := by omega
      have ht2 : (x.textn : Int) ≤ 3000 := by omega
      obtain ⟨W0, hW0⟩ : ∃ W0, W0 = wr.alloc (.cells #[.slice x.textA x.textn x.textc, .int .u8 x.fuse, .slice x.keepA x.keepn x.keepc] 55) := ⟨_, rfl⟩
      have hT0 := HT.out.below (show Below wr.heap.size wr W0 by rw [hW0]; exact (Below.refl _ _).alloc (Nat.le_refl _) _)
      have rW0 : W0.heap[wr.heap.size]? = some (.cells #[.slice x.textA x.textn x.textc, .int .u8 x.fuse, .slice x.keepA x.keepn x.keepc] 55 (0, 0)) := by rw [hW0]; exact row_here _ _ rfl
      have c0 := cell_of_row W0 _ 0 _ _ _ rW0
      have c1 := cell_of_row W0 _ 1 _ _ _ rW0
      have c2 := cell_of_row W0 _ 2 _ _ _ rW0
      simp at c0 c1 c2
      have HW0 := Lib.hid hW0
      have HX0 := Lib.hid hT0
      have HQ := Lib.hid (show wr.heap.size < W0.heap.size by rw [hW0]; simp)
      have HK := Lib.hid (And.intro hk ht)
      clear hW0 hT0 rW0 hk ht
      go_upto_region 12 with (fail)
      rw [← HW0.out]
      go_upto_region 13 with (first
        | (go_at_call 22; refine (twlast_all HX0.out.tw (stands_zero HSt.out) (by have := HSt.out.text; omega)).mono ?_; rintro e w3 ⟨A3, c3, rfl, hr3, hf3, hb3⟩)
        | fail)
      have c0 := kept hb3 c0 HQ.out
      have c1 := kept hb3 c1 HQ.out
      have c2 := kept hb3 c2 HQ.out
      obtain ⟨X, hX⟩ : ∃ X : Nat → Prop, X = fun i => wr.heap.size ≤ i ∧ i < w3.heap.size := ⟨_, rfl⟩
      have hb03 : Below wr.heap.size wr w3 := (show Below wr.heap.size wr W0 by rw [HW0.out]; exact (Below.refl _ _).alloc (Nat.le_refl _) _).trans (hb3.mono (Nat.le_of_lt HQ.out))
      have hX3 : Tlx X w w3 w.heap.size g T' (100 * i) d t := HT.out.tlx hb03 (fun j hj => by rw [hX] at hj; exact hj)
      have hXx : X wr.heap.size := by rw [hX]; exact ⟨Nat.le_refl _, Nat.lt_of_lt_of_le HQ.out hb3.size⟩
      have hXA : 0 < t.text.length → ∀ b o, A3 = some ⟨b, o, none⟩ → X b ∨ b < w.heap.size := fun h0 b o e => by
        obtain ⟨b', o', e', hb', _⟩ := hr3.2.2.2 h0
        rw [e] at e'
        cases e'
        left
        rw [hX]
        exact ⟨Nat.le_trans (Nat.le_of_lt HQ.out) (hf3 b o e), hb'⟩
      have H3 := Lib.hid hX3
      have HXX := Lib.hid hXx
      have HXA := Lib.hid hXA
      have HR3 := Lib.hid hr3
      have HB3 := Lib.hid hb3.size
      have HSf := Lib.hid (stands_fused HSt.out (x.fuse % 8) (by unfold Key; omega))
      have HDf := Lib.hid (show (d.fused (x.fuse % 8)).down = false ∧ (d.fused (x.fuse % 8)).n = 20 from HDN.out)
      clear hb03 hX3 hXx hXA hX hr3 hf3 hb3
      go_upto_region 14 with (first
        | (go_at_call 23; refine (tlx_fuse H3.out _ (by unfold Key; omega)).mono ?_; rintro e w4 ⟨rfl, hX4, hk4⟩)
        | fail)
      generalize d.fused (x.fuse % 8) = d0 at *
      have c0 := off_cell hk4 (.inl HXX.out) c0
      have c2 := off_cell hk4 (.inl HXX.out) c2
      have HR4 := Lib.hid (off_rd hk4 HR3.out HXA.out)
      have HK4 := Lib.hid hk4.size
      have H4 := Lib.hid hX4
      obtain ⟨d2, hd2⟩ : ∃ d2, d2 = (t.tried d0 x.text).1.crash x.keep := ⟨_, rfl⟩
      obtain ⟨t2, ht2⟩ : ∃ t2, t2 = openTv 2 3 (d2.bytes 2 (2 * 3)) := ⟨_, rfl⟩
      obtain ⟨hs2, hdd2, hdn2, hnx2, hcase⟩ := try_pure HSf.out HDf.out.1 (by decide) (by decide) (by have := HNX.out; omega) x.text x.keep d2 hd2 t2 ht2
      have hTR := tlx_try H4.out HSf.out (by omega) (by decide) (by decide) (by have := HNX.out; omega) (by rw [HDf.out.2]; decide) x.textA x.textn x.textc x.text ((HR0.out.below H4.out.bel).more H4.out.bel.size) (by omega)
      generalize t.tried d0 x.text = r at *
      obtain ⟨d1, f⟩ := r
      dsimp only at hTR hd2 hcase
      have hzt := stands_zero hs2
      have hlt2 := hs2.text
      obtain ⟨hv, ehv⟩ : ∃ v, v = decide (0 < t2.number) := ⟨_, rfl⟩
      obtain ⟨hw, ehw⟩ : ∃ v, v = decide (0 < t.number) := ⟨_, rfl⟩
      obtain ⟨b1, eb1⟩ : ∃ v, v = ((str t2.text).toList == (str x.text).toList) := ⟨_, rfl⟩
      obtain ⟨b2, eb2⟩ : ∃ v, v = ((str t2.text).toList == (str t.text).toList) := ⟨_, rfl⟩
      have hcase2 : (f = 0 ∧ hv = true ∧ b1 = true) ∨ (f = 50 ∧ hv = hw ∧ b2 = true) ∨ (f = 11 ∧ hv = hw ∧ b2 = true) ∨ (f = 50 ∧ hv = true ∧ b1 = true) := by
        rcases hcase with ⟨h1, h2, h3⟩ | ⟨h1, h2, h3⟩ | ⟨h1, h2, h3⟩
        · exact .inl ⟨h1, by rw [ehv]; exact decide_eq_true h2, by rw [eb1, h3]; exact beq_self_eq_true _⟩
        · have e1 : hv = hw := by rw [ehv, ehw, h2]
          have e2 : b2 = true := by rw [eb2, h3]; exact beq_self_eq_true _
          rcases h1 with h1 | h1
          · exact .inr (.inl ⟨h1, e1, e2⟩)
          · exact .inr (.inr (.inl ⟨h1, e1, e2⟩))
        · exact .inr (.inr (.inr ⟨h1, by rw [ehv]; exact decide_eq_true h2, by rw [eb1, h3]; exact beq_self_eq_true _⟩))
      rw [← ehw]
      have q1 := eb1.symm
      have q2 := eb2.symm
      have hop : ∀ (W : World) (M : Nat), Dlx X w W w.heap.size g M d2 → Calls Try.prog 13 #[.pointer (some ⟨g, 0, none⟩), .int .i64 2, .int .i64 3] W fun e w' => ∃ T, e = .returned (.tuple #[.pointer (some ⟨T, 0, none⟩), .int .i64 0]) ∧ Tlx X w w' w.heap.size g T M d2 t2 ∧ Below W.heap.size W w' := fun W M h => by
        rw [ht2]
        exact dlx_open h hdd2 2 3 (by decide) (by decide) (by decide) (by rw [hdn2, HDf.out.2]; decide)
      have HOP := Lib.hid hop
      have HTR := Lib.hid hTR
      have HD2 := Lib.hid hd2
      have HT2 := Lib.hid ht2
      have HS2' := Lib.hid hs2
      have HDN2 := Lib.hid (And.intro hdd2 (And.intro (hdn2.trans HDf.out.2) hnx2))
      have HZT := Lib.hid (And.intro hzt hlt2)
      have HEV := Lib.hid ehv
      have HLA := fun (W : World) => @twlast_all W
      clear hcase hop hTR hd2 ht2 hs2 hdd2 hdn2 hnx2 hzt hlt2 ehv ehw eb1 eb2 hX4 hk4 HT HX0
      rcases hcase2 with ⟨rfl, rfl, rfl⟩ | ⟨rfl, rfl, rfl⟩ | ⟨rfl, rfl, rfl⟩ | ⟨rfl, rfl, rfl⟩
      all_goals (
        go_wp2_with (first
          | (go_at_call 16; refine HTR.out.mono ?_; rintro e w5 ⟨rfl, ⟨t1, hX5⟩, hk5⟩
             have c0 := off_cell hk5 (.inl HXX.out) c0
             have c2 := off_cell hk5 (.inl HXX.out) c2
             have HR5 := Lib.hid (off_rd hk5 HR4.out HXA.out)
             have H5 := Lib.hid hX5
             clear hX5 hk5)
          | (go_at_call 20; refine (dlx_crash H5.out.dlx (by omega) x.keepA x.keepn x.keepc x.keep (HR2.out.below H5.out.bel) (by omega)).mono ?_
             rw [← HD2.out]
             rintro e w6 ⟨rfl, hX6, hk6⟩
             have c0 := off_cell hk6 (.inl HXX.out) c0
             have HR6 := Lib.hid (off_rd hk6 HR5.out HXA.out)
             have H6 := Lib.hid hX6
             clear hX6 hk6)
          | (go_at_call 13; refine (HOP.out _ _ H6.out).mono ?_
             rintro e w7 ⟨T7, rfl, hX7, hb7⟩
             have c0 := (off_cell (w := w) (Keeps.of_below hb7) (.inl HXX.out) c0)
             have HR7 := Lib.hid (off_rd (w := w) (Keeps.of_below hb7) HR6.out HXA.out)
             have H7 := Lib.hid hX7
             clear hX7 hb7)
          | (go_at_call 22; refine (twlast_all H7.out.tw HZT.out.1 (by have := HZT.out.2; omega)).mono ?_
             rw [← HEV.out]
             rintro e w8 ⟨A8, c8, rfl, hr8, hf8, hb8⟩
             have c0 := (off_cell (w := w) (Keeps.of_below hb8) (.inl HXX.out) c0)
             have HR8 := off_rd (w := w) (Keeps.of_below hb8) HR7.out HXA.out
             have H8 := Lib.hid (H7.out.below hb8)
             have hs1 := run_str Try.underlying38 Try.underlying5 Try.underlying9 hr8
             have hs2 := run_str Try.underlying38 Try.underlying5 Try.underlying9 HR8
             have hs3 := run_str Try.underlying38 Try.underlying5 Try.underlying9 ((HR0.out.below H8.out.bel).more H8.out.bel.size)
             clear hr8 hf8 hb8 HR8)
          | fail)
        all_goals (
          go_roundw
          case rel => exact ⟨i + 1, T7, d2, t2, by omega, by go_num, rfl, (H8.out.le (by omega)).tl, HS2'.out, HDN2.out.1, HDN2.out.2.1, by have := HDN2.out.2.2; have := HNX.out; omega⟩
          case measure => simp [intOf]; omega))
    · obtain rfl : i = n := by omega
      go_wp2_with (first
        | (go_at_call 9; refine (lives8 _).mono ?_; rintro e w9 ⟨rfl, hb9⟩)
        | fail)
      go_ret
      exact ⟨rfl, hT.bel.trans (hb9.mono hT.bel.size)⟩
theorem twinCrash_walk {A : Option Addr} {n c : Nat} {os : List Try_} {w : World} (h : Slc Try_.lay w A n c os) :
    Calls Try.prog 4 #[.slice A n c] w fun e w' => e = .returned (.bool true) ∧ Below w.heap.size w w' := twinCrash_at h

namespace twinCrash
open Go.ChangeShapes Go.WideShapes Go.ChangeAt
set_option maxRecDepth 100000 in
theorem lifted (os : Os) (started : os.Started) (H : Type) (enc : TypeId × Value → H) :
    ReturnsInHanded {} Try.checked os 4 .any (Rows.twinCrashSpec.pre6 enc Try.prog Try.f4 Rows.twinCrashRow.domain false) (Rows.twinCrashSpec.post enc Try.prog Try.f4 false true false false) := by
  refine returnsInHanded_of_change (C := Try.checked) own started (by kernel_rfl) Try.func4
    (ChangeSpec.witness6 (enc := enc) (C := Try.checked) false ⟨#[], #[.slice none 0 0], []⟩ 8 (by kernel_rfl) (by kernel_rfl) (by kernel_rfl) (by kernel_rfl)) ?_
  intro W base args ds gs before hval0 hW _ _
  have hval : ∀ (j : Nat) t v, Try.f4.params[j]? = some t → args[j]? = some v → Value.okWide Try.prog W .any base t v := hval0
  have hW' := hW
  obtain ⟨p, q, hA0, hV, rfl, hfz, hnd⟩ := hW
  have hA : DataW.TrodAll enc Try.prog W 0 (fun _ => true) true Try.f4.params.toList args.toList ds p := hA0
  rw [Try.params4] at hA hval
  obtain ⟨v0, vs0, d0, ds0, p0, q0, hargs, rfl, rfl, h0, r0⟩ := trodAll_cons hA
  obtain ⟨rfl, rfl, rfl⟩ := trodAll_nil r0
  obtain rfl : args = #[v0] := by cases args; simp_all
  obtain ⟨rfl, rfl⟩ := trodVars_none hV
  have k0 := h0
  have lt0 : ∀ x ∈ p0, x.block < W.heap.size := by obtain ⟨m, hm⟩ := k0; exact DataW.trod_lt m _ _ _ hm
  obtain ⟨a0, n0, c0, l0, rfl, w0⟩ := Try_.dec (hval 0 53 v0 rfl rfl) h0
  clear hA0 hval0
  refine (twinCrash_walk w0).mono fun e W' ⟨he, bel⟩ => ?_
  subst he
  exact ⟨_, rfl, _, _, _, [], _, [], hW', trodAll_mk1 (shut_bool Try.underlying4 _), (trodAll_cons_mk (Below.trod laidOut (by kernel_rfl) (of_decide_eq_true (by kernel_rfl)) k0 bel lt0) trodAll_mk0), rfl, bel.frame _, fun h => by cases h⟩

theorem over : Rows.twinCrashRow.holds Try.pinned (OpenSpec.ofChange Rows.twinCrashSpec) :=
  OpenClaim.holds_of_wide 4 Try.f4 rfl rfl rfl rfl rfl rfl rfl ⟨rfl, rfl, rfl, rfl, rfl⟩ rfl rfl rfl rfl rfl (by kernel_rfl) Try.func4 (by kernel_rfl)
    (of_decide_eq_true (by kernel_rfl)) (by unfold Func.isWrapper; first | (rw [if_pos (by decide +kernel)]; kernel_rfl) | (rw [if_neg (by decide +kernel)]; exact ⟨rfl, rfl⟩))
    (fun os started H enc _ => lifted os started H enc)
/-- The given statement. -/
theorem proved : Rows.TwinCrashSaid := over
end twinCrash

end Go.Proofs.Yteakdmabdfpiiaa
