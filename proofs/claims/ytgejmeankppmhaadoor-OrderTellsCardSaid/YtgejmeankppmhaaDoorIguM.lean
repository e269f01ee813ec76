/- Blocks are put into an image, the document's own. -/
import Derived.Test.YtgejmeankppmhaaDoorIgtM
import Derived.Test.YtgejmeankppmhaaDoorIgcM
namespace Go.Proofs.YtgejmeankppmhaaDoor
open Go.RowKit
set_option maxRecDepth 20000

/-- What stands behind the blocks that are put. -/
def put15 (l d : List UInt8) (f : Nat) : List UInt8 := (l.take (8 * f) ++ d) ++ l.drop (8 * f + d.length)
theorem nthk (l d : List UInt8) (f : Nat) (h : 8 * f + d.length ≤ l.length) (i : Nat) : ((l.take (8 * f) ++ d) ++ l.drop (8 * f + d.length))[i]? = if i < 8 * f then l[i]? else if i < 8 * f + d.length then d[i - 8 * f]? else l[i]? := by
  by_cases h1 : i < 8 * f
  · rw [if_pos h1, List.getElem?_append_left (by simp; omega), List.getElem?_append_left (by simp; omega), List.getElem?_take_of_lt h1]
  · rw [if_neg h1]
    by_cases h2 : i < 8 * f + d.length
    · rw [if_pos h2, List.getElem?_append_left (by simp; omega), List.getElem?_append_right (by simp; omega)]
      congr 1
      simp; omega
    · rw [if_neg h2, List.getElem?_append_right (by simp; omega), List.getElem?_drop]
      congr 1
      simp; omega
theorem take8 (l : List UInt8) (k : Nat) : l.take (8 * (k + 1)) = l.take (8 * k) ++ (l.drop (8 * k)).take 8 := by
  rw [show 8 * (k + 1) = 8 * k + 8 by omega, List.take_add]
theorem put15_in {l d : List UInt8} {f c k : Nat} (hd : d.length = 8 * c) (h : 8 * f + d.length ≤ l.length) (h1 : f ≤ k) (h2 : k < f + c) : ((put15 l d f).drop (8 * k)).take 8 = (d.drop (8 * (k - f))).take 8 := by
  apply List.ext_getElem?
  intro j
  rw [List.getElem?_take, List.getElem?_take, List.getElem?_drop, List.getElem?_drop]
  by_cases hj : j < 8
  · rw [if_pos hj, if_pos hj]
    unfold put15
    rw [nthk l d f h, if_neg (by omega), if_pos (by omega)]
    congr 1
    omega
  · rw [if_neg hj, if_neg hj]
theorem put15_out {l d : List UInt8} {f c k : Nat} (hd : d.length = 8 * c) (h : 8 * f + d.length ≤ l.length) (h1 : ¬ (f ≤ k ∧ k < f + c)) : ((put15 l d f).drop (8 * k)).take 8 = (l.drop (8 * k)).take 8 := by
  apply List.ext_getElem?
  intro j
  rw [List.getElem?_take, List.getElem?_take, List.getElem?_drop, List.getElem?_drop]
  by_cases hj : j < 8
  · rw [if_pos hj, if_pos hj]
    unfold put15
    rw [nthk l d f h]
    by_cases h2 : 8 * k + j < 8 * f
    · rw [if_pos h2]
    · rw [if_neg h2, if_neg (by omega)]
  · rw [if_neg hj, if_neg hj]
theorem put15_end {l d : List UInt8} {f n : Nat} (h : 8 * f + d.length ≤ 8 * n) (hn : 8 * n ≤ l.length) : (put15 l d f).take (8 * n) ++ l.drop (8 * n) = put15 l d f := by
  have e : (put15 l d f).drop (8 * n) = l.drop (8 * n) := by
    apply List.ext_getElem?
    intro j
    rw [List.getElem?_drop, List.getElem?_drop]
    unfold put15
    rw [nthk l d f (by omega), if_neg (by omega), if_neg (by omega)]
  rw [← e, List.take_append_drop]
theorem put15_len {l d : List UInt8} {f : Nat} (h : 8 * f + d.length ≤ l.length) : (put15 l d f).length = l.length := by
  simp only [put15, List.length_append, List.length_take, List.length_drop]
  omega
set_option maxHeartbeats 2000000 in
theorem riput_any (i : Im) (f c : Nat) (d : List UInt8) (w : World) (hT : i.T.length = 8) (hf : f < 4294967296) (hc : c < 4294967296) (hlen : i.l.length ≤ 100000) (hd : d.length ≤ 100000) :
    Calls Tryd.prog 30 #[imv i, .int .u32 (f : Int), .int .u32 (c : Int), .string (str d)] w fun e w' => e = .returned (.tuple #[imv (iput i f c d).1, .int .i64 (iput i f c d).2]) ∧ Below w.heap.size w w' := by
  have hs : (str i.l).size = i.l.length := rfl
  have hds : (str d).size = d.length := rfl
  have hT8 := Lib.hid hT
  have h08 : I0.T.length = 8 := rfl
  clear hT
  by_cases hc0 : c = 0
  · subst hc0
    have hres : iput i f 0 d = (i, 30) := by unfold iput; rw [if_neg (by omega)]
    rw [hres]
    dsimp only
    clear hres
    go_enter Tryd.func30, Tryd.ntmps30
    go_wp2_with (first
      | (refine wpL_rbox (cs := icells i) (o := ⟨some 4, _, _, _, _, _⟩) rfl (.tmp 0) rfl rfl ?_; intro W0 b4 hN; obtain ⟨hb4, hr4, hl4, hz4⟩ := hN)
      | (refine imB.wpNew (o := ⟨some 8, _, _, _, _, _⟩) rfl rfl ?_; intro W b8 hN; obtain ⟨hb8, hr8, hl8, hz8⟩ := hN
         have R4 := Lib.hid (row_below hr4.out hl8)
         have HB := Lib.hid (hl4.trans (hl8.mono hl4.size))
         have h8w : w.heap.size ≤ b8 := by have := hb8.out; have := hl4.size; omega
         clear hb4 hr4 hl4 hz4 hb8 hl8 hz8)
      | (refine imB.wpLoad (by rfl) (.tmp 4) rfl rfl R4.out hT8.out ?_)
      | (refine imB.wpStore rfl (.tmp 8) (.tmp 29) rfl rfl rfl hr8.out h08 hT8.out ?_; intro W9 hr9 hg9 hz9)
      | fail)
    refine bodyPost_ret (results_cell_tmp rfl _ b8 51 _ (0, 0) _ rfl hr9.out imB.und rfl (by rw [imB.size]; simp [icells_19 hT8.out])) rfl ⟨rfl, HB.out.grown hg9 HB.out.size (fun k e => by cases e; exact h8w)⟩
  · have q0 : ((c : Int) == 0) = false := by rw [beq_eq_false_iff_ne]; omega
    obtain ⟨n, hn⟩ : ∃ n, n = i.l.length / 8 := ⟨_, rfl⟩
    have hn8 : 8 * n ≤ i.l.length := by omega
    have hnl : i.l.length < 8 * n + 8 := by omega
    have hnI : (i.l.length : Int) / 8 = (n : Int) := by omega
    by_cases hg : f + c ≤ n
    · have q1 : decide ((n : Int) < (f : Int) + (c : Int)) = false := by simp; omega
      have q1n : ¬ n < f + c := by omega
      by_cases hdl : d.length = 8 * c
      · have hres : iput i f c d = (⟨i.L, i.B, put15 i.l d f, i.T⟩, 0) := by unfold iput put15; rw [if_pos (by omega), if_pos hdl]
        rw [hres]
        dsimp only
        have q2 : ((d.length : Int) != 8 * (c : Int)) = false := by rw [bne_eq_false_iff_eq]; omega
        have hfit : 8 * f + d.length ≤ 8 * n := by omega
        have hend := put15_end (l := i.l) (d := d) (f := f) (n := n) hfit hn8
        have hpl := put15_len (l := i.l) (d := d) (f := f) (by omega)
        have hin := fun k => put15_in (l := i.l) (d := d) (f := f) (c := c) (k := k) hdl (by omega)
        have hout := fun k => put15_out (l := i.l) (d := d) (f := f) (c := c) (k := k) hdl (by omega)
        have ht8 := fun k => take8 (put15 i.l d f) k
        obtain ⟨L', hL'⟩ : ∃ L', L' = put15 i.l d f := ⟨_, rfl⟩
        rw [← hL'] at hend hpl ht8 ⊢
        simp only [← hL'] at hin hout
        have HEND := Lib.hid hend
        have HIN := Lib.hid hin
        have HOUT := Lib.hid hout
        have HT8 := Lib.hid ht8
        have HDL := Lib.hid hdl
        clear hres hend hin hout ht8 hL' hn hdl
        go_enter Tryd.func30, Tryd.ntmps30
        go_wp2_with (first
          | (refine wpL_rbox (cs := icells i) (o := ⟨some 4, _, _, _, _, _⟩) rfl (.tmp 0) rfl rfl ?_; intro W0 b4 hN; obtain ⟨hb4, hr4, hl4, hz4⟩ := hN)
          | (refine imB.wpNew (o := ⟨some 8, _, _, _, _, _⟩) rfl rfl ?_; intro W b8 hN; obtain ⟨hb8, hr8, hl8, hz8⟩ := hN
             have R4 := Lib.hid (row_below hr4.out hl8)
             have HB := Lib.hid (hl4.trans (hl8.mono hl4.size))
             have h4w : w.heap.size ≤ b4 := Nat.le_of_eq hb4.out.symm
             have h8w : w.heap.size ≤ b8 := by have := hb8.out; have := hl4.size; omega
             have h48 : b4 < b8 := by have := hb8.out; have := hz4.out; omega
             have c2 := icell2 R4.out
             have f2 := frozen_of_row _ b4 2 _ _ R4.out
             clear hb4 hr4 hl4 hz4 hb8 hl8 hz8)
          | fail)
        have hcI : (c : Int) < 4294967296 := by omega
        have q3 : 0 ≤ (n : Int) := by omega
        have q4 : (n : Int) ≤ 12500 := by omega
        go_loop [11, 12] (fun outr kr => ∃ (k : Nat) (t : List UInt8), k ≤ n ∧ Hid (t = L'.take (8 * k)) ∧ t.length ≤ 100000 ∧ kr = .int .u64 (k : Int) ∧ outr = .string (str t)) (fun _ kr => n - (intOf kr).toNat)
        case atStart => exact ⟨0, [], Nat.zero_le _, Lib.hid (by simp), Nat.zero_le _, rfl, rfl⟩
        case round =>
          obtain ⟨k, t, hk, HTk, htl, rfl, rfl⟩ := hrel
          have ht1 : (str t).size = t.length := rfl
          by_cases hlt : k < n
          · have q5 : decide ((k : Int) < (n : Int)) = true := by simp; omega
            by_cases hio : f ≤ k ∧ k < f + c
            · obtain ⟨hfk, hkc⟩ := hio
              obtain ⟨j, hj⟩ : ∃ j, j = k - f := ⟨_, rfl⟩
              obtain ⟨p, hp⟩ : ∃ p, p = 8 * j := ⟨_, rfl⟩
              obtain ⟨p2, hp2⟩ : ∃ p2, p2 = p + 8 := ⟨_, rfl⟩
              have hnext : L'.take (8 * (k + 1)) = t ++ (d.drop p).take 8 := by
                rw [HT8.out, HIN.out _ (by omega) (by omega), HTk.out, hp, hj]
              have hx : (str d).extract p p2 = str ((d.drop p).take 8) := by
                rw [str_extract, show p2 - p = 8 by omega]
              have hdj : p2 ≤ d.length := by have := HDL.out; omega
              have hpp : p ≤ p2 := by omega
              have hxl : ((d.drop p).take 8).length = 8 := by rw [List.length_take, List.length_drop]; omega
              have z1 : IntKind.u64.wrap ((k : Int) - (f : Int)) = (j : Int) := by rw [IntKind.wrap_u64]; omega
              have z2 : IntKind.u64.wrap (8 * (j : Int)) = (p : Int) := by rw [IntKind.wrap_u64]; omega
              have z3 : IntKind.u64.wrap ((p : Int) + 8) = (p2 : Int) := by rw [IntKind.wrap_u64]; omega
              have z4 : IntKind.u64.wrap ((k : Int) + 1) = ((k + 1 : Nat) : Int) := by rw [IntKind.wrap_u64]; omega
              generalize (d.drop p).take 8 = u at *
              have hus : (str u).size = 8 := by rw [str_size]; exact hxl
              have HN := Lib.hid hnext
              have HXL := Lib.hid hxl
              have k3 : ¬ 9223372036854775807 < t.length + 8 := by omega
              have m1 : decide ((f : Int) ≤ (k : Int)) = true := by simp; omega
              have m2 : decide ((k : Int) < (f : Int) + (c : Int)) = true := by simp; omega
              clear hnext hxl hj hp hp2 hcI
              go_wp2
              go_round
              case rel => exact ⟨k + 1, t ++ u, by omega, Lib.hid HN.out.symm, by rw [← HN.out, List.length_take]; omega, by go_num, by rw [str_app]⟩
              case measure => simp [intOf]; omega
            · obtain ⟨p, hp⟩ : ∃ p, p = 8 * k := ⟨_, rfl⟩
              obtain ⟨p2, hp2⟩ : ∃ p2, p2 = p + 8 := ⟨_, rfl⟩
              have hnext : L'.take (8 * (k + 1)) = t ++ (i.l.drop p).take 8 := by
                rw [HT8.out, HOUT.out _ hio, HTk.out, hp]
              have hx : (str i.l).extract p p2 = str ((i.l.drop p).take 8) := by
                rw [str_extract, show p2 - p = 8 by omega]
              have hdj : p2 ≤ i.l.length := by omega
              have hpp : p ≤ p2 := by omega
              have hxl : ((i.l.drop p).take 8).length = 8 := by rw [List.length_take, List.length_drop]; omega
              have z2 : IntKind.u64.wrap (8 * (k : Int)) = (p : Int) := by rw [IntKind.wrap_u64]; omega
              have z3 : IntKind.u64.wrap ((p : Int) + 8) = (p2 : Int) := by rw [IntKind.wrap_u64]; omega
              generalize (i.l.drop p).take 8 = u at *
              have hus : (str u).size = 8 := by rw [str_size]; exact hxl
              have HN := Lib.hid hnext
              have HXL := Lib.hid hxl
              have k3 : ¬ 9223372036854775807 < t.length + 8 := by omega
              by_cases hfk : f ≤ k
              · have hkc : ¬ k < f + c := fun h => hio ⟨hfk, h⟩
                have m1 : decide ((f : Int) ≤ (k : Int)) = true := by simp; omega
                have m2 : decide ((k : Int) < (f : Int) + (c : Int)) = false := by simp; omega
                clear hnext hxl hp hp2 hcI hio
                go_wp2
                go_round
                case rel => exact ⟨k + 1, t ++ u, by omega, Lib.hid HN.out.symm, by rw [← HN.out, List.length_take]; omega, by go_num, by rw [str_app]⟩
                case measure => simp [intOf]; omega
              · have m1 : decide ((f : Int) ≤ (k : Int)) = false := by simp; omega
                clear hnext hxl hp hp2 hcI hio
                go_wp2
                go_round
                case rel => exact ⟨k + 1, t ++ u, by omega, Lib.hid HN.out.symm, by rw [← HN.out, List.length_take]; omega, by go_num, by rw [str_app]⟩
                case measure => simp [intOf]; omega
          · have hkn : k = n := by omega
            have q5 : decide ((k : Int) < (n : Int)) = false := by simp; omega
            obtain ⟨p, hp⟩ : ∃ p, p = 8 * n := ⟨_, rfl⟩
            have z2 : 8 * (n : Int) = (p : Int) := by omega
            have hpl2 : p ≤ i.l.length := by omega
            have hx : (str i.l).extract p i.l.length = str (i.l.drop p) := str_drop i.l p
            have k2 : (str (i.l.drop p)).size = i.l.length - p := by rw [str_size, List.length_drop]
            have k3 : ¬ 9223372036854775807 < t.length + (i.l.length - p) := by omega
            have hfin : str t ++ str (i.l.drop p) = str L' := by rw [str_app, HTk.out, hkn, hp, HEND.out]
            have HFIN := Lib.hid hfin
            have hst := heap_setCell_same W b4 2 _ _ (.string (str L')) R4.out
            rw [icells_setl'] at hst
            have hgs : W.grownBy (W.setCell ⟨b4, 2, none⟩ (.string (str L'))) (some b4) := setCell_by (w' := W) (p := ⟨b4, 2, none⟩) (World.grownBy.refl W (some b4)) rfl _
            have XR := Lib.hid hst
            have K8 := Lib.hid (row_far hr8.out hgs (fun e => by have := Option.some.inj e; omega))
            have HF := Lib.hid (HB.out.grown hgs HB.out.size (fun k e => by cases e; exact h4w))
            have hl19 : (icells ⟨i.L, i.B, L', i.T⟩).toArray.size = 19 := by rw [List.size_toArray]; exact icells_19 hT8.out
            have HL19 := Lib.hid hl19
            clear hp hkn hst hgs hl19 HTk HFIN
            go_wp2_with (first
              | (refine imB.wpLoad (by rfl) (.tmp 4) rfl rfl XR.out hT8.out ?_)
              | (refine imB.wpStore rfl (.tmp 8) (.tmp 91) rfl rfl rfl K8.out h08 hT8.out ?_; intro W9 hr9 hg9 hz9)
              | fail)
            refine bodyPost_ret (results_cell_tmp rfl _ b8 51 _ (0, 0) _ rfl hr9.out imB.und rfl (by rw [imB.size, HL19.out])) rfl ⟨rfl, HF.out.grown hg9 HF.out.size (fun k e => by cases e; exact h8w)⟩
      · have hres : iput i f c d = (i, 2) := by unfold iput; rw [if_pos (by omega), if_neg hdl]
        rw [hres]
        dsimp only
        have q2 : ((d.length : Int) != 8 * (c : Int)) = true := by rw [bne_iff_ne]; omega
        clear hres hn hdl hn8 hnl
        go_enter Tryd.func30, Tryd.ntmps30
        go_wp2_with (first
          | (refine wpL_rbox (cs := icells i) (o := ⟨some 4, _, _, _, _, _⟩) rfl (.tmp 0) rfl rfl ?_; intro W0 b4 hN; obtain ⟨hb4, hr4, hl4, hz4⟩ := hN)
          | (refine imB.wpNew (o := ⟨some 8, _, _, _, _, _⟩) rfl rfl ?_; intro W b8 hN; obtain ⟨hb8, hr8, hl8, hz8⟩ := hN
             have R4 := Lib.hid (row_below hr4.out hl8)
             have HB := Lib.hid (hl4.trans (hl8.mono hl4.size))
             have h8w : w.heap.size ≤ b8 := by have := hb8.out; have := hl4.size; omega
             have c2 := icell2 R4.out
             clear hb4 hr4 hl4 hz4 hb8 hl8 hz8)
          | (refine imB.wpLoad (by rfl) (.tmp 4) rfl rfl R4.out hT8.out ?_)
          | (refine imB.wpStore rfl (.tmp 8) (.tmp 36) rfl rfl rfl hr8.out h08 hT8.out ?_; intro W9 hr9 hg9 hz9)
          | fail)
        refine bodyPost_ret (results_cell_tmp rfl _ b8 51 _ (0, 0) _ rfl hr9.out imB.und rfl (by rw [imB.size]; simp [icells_19 hT8.out])) rfl ⟨rfl, HB.out.grown hg9 HB.out.size (fun k e => by cases e; exact h8w)⟩
    · have hres : iput i f c d = (i, 30) := by unfold iput; rw [if_neg (by omega)]
      rw [hres]
      dsimp only
      have q1 : decide ((n : Int) < (f : Int) + (c : Int)) = true := by simp; omega
      have q1n : n < f + c := by omega
      clear hres hn hn8 hnl hg
      go_enter Tryd.func30, Tryd.ntmps30
      go_wp2_with (first
        | (refine wpL_rbox (cs := icells i) (o := ⟨some 4, _, _, _, _, _⟩) rfl (.tmp 0) rfl rfl ?_; intro W0 b4 hN; obtain ⟨hb4, hr4, hl4, hz4⟩ := hN)
        | (refine imB.wpNew (o := ⟨some 8, _, _, _, _, _⟩) rfl rfl ?_; intro W b8 hN; obtain ⟨hb8, hr8, hl8, hz8⟩ := hN
           have R4 := Lib.hid (row_below hr4.out hl8)
           have HB := Lib.hid (hl4.trans (hl8.mono hl4.size))
           have h8w : w.heap.size ≤ b8 := by have := hb8.out; have := hl4.size; omega
           have c2 := icell2 R4.out
           clear hb4 hr4 hl4 hz4 hb8 hl8 hz8)
        | (refine imB.wpLoad (by rfl) (.tmp 4) rfl rfl R4.out hT8.out ?_)
        | (refine imB.wpStore rfl (.tmp 8) (.tmp 29) rfl rfl rfl hr8.out h08 hT8.out ?_; intro W9 hr9 hg9 hz9)
        | fail)
      refine bodyPost_ret (results_cell_tmp rfl _ b8 51 _ (0, 0) _ rfl hr9.out imB.und rfl (by rw [imB.size]; simp [icells_19 hT8.out])) rfl ⟨rfl, HB.out.grown hg9 HB.out.size (fun k e => by cases e; exact h8w)⟩
end Go.Proofs.YtgejmeankppmhaaDoor
