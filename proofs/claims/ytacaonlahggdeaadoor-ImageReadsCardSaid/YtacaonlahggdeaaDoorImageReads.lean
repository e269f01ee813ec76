/- ImageReads: any text is read as the document's image, or refused; an image that may be is read from its text as it was; what is read, made again, is that text. -/
import Derived.Test.YtacaonlahggdeaaDoorLives15
import Derived.Test.YtacaonlahggdeaaDoorIgs
import Derived.Test.YtacaonlahggdeaaDoorIgp
import Derived.Test.YtacaonlahggdeaaDoorMtie
import Derived.Test.YtacaonlahggdeaaDoorCards
import Derived.Test.YtacaonlahggdeaaDoorTie
import Derived.Test.YtacaonlahggdeaaDoorDecim
namespace Go.Proofs.YtacaonlahggdeaaDoor
open Go.RowKit
set_option maxRecDepth 20000

theorem ird_len (s : List UInt8) : (ird s).1.l.length ≤ s.length := by
  have h1 := irdS_len (openOf s).1
  have h2 := openOf_len s
  have h3 : I0.l.length ≤ s.length := Nat.zero_le _
  have h4 := irdB_eq (openOf s).1
  have h5 : ird s = if (openOf s).2 = 0 then irdB (openOf s).1 else (I0, (openOf s).2) := rfl
  rw [h5]
  by_cases h : (openOf s).2 = 0
  · rw [if_pos h, h4]
    generalize irdS ⟨(openOf s).1, false⟩ = r at *
    by_cases hg : r.2.end_ = 0 ∧ igB r.1 = true
    · rw [if_pos hg]; exact Nat.le_trans h1 h2
    · rw [if_neg hg]; exact h3
  · rw [if_neg h]; exact h3

/-- What is made of an image, and read of it. -/
theorem made_cases (i : Im) (hok : i.ok) : (∃ S, imk i = (S, 0) ∧ ird S = (i, 0) ∧ S.length = 102 + i.l.length) ∨ (∃ S E, imk i = (S, E) ∧ E ≠ 0) := by
  by_cases h : igB i = true
  · refine .inl ⟨sealOf (body15 i), by unfold imk; rw [if_pos h], ?_, by rw [sealOf_len, body15_len i hok.2.2.1]; omega⟩
    have := (read_make hok h).2
    unfold imk at this
    rw [if_pos h] at this
    exact this
  · exact .inr ⟨[], 2, make_no h, by decide⟩

set_option maxHeartbeats 4000000 in
theorem imageReads_at (s : List UInt8) (i : Im) (w : World) (hok : i.ok) (hT : Tab w) :
    Calls Tryd.prog 4 #[.string (str s), imv i] w fun e w' => e = .returned (.bool true) ∧ Below w.heap.size w w' := by
  have hs : (str i.l).size = i.l.length := rfl
  have hss : (str s).size = s.length := rfl
  by_cases hl : 3000 < s.length ∨ 2000 < i.l.length
  · by_cases h3 : 3000 < s.length
    · have q1 : decide ((3000 : Int) < (s.length : Int)) = true := by simp; omega
      clear hok hl
      go_enter Tryd.func4, Tryd.ntmps4
      go_wp2_with (first
        | (refine wpL_rbox (cs := icells i) rfl (.tmp 1) rfl rfl ?_; intro W0 b hN; obtain ⟨hb, hr, hl1, hz⟩ := hN; have c2 := icell2 hr.out)
        | (go_at_call 6; refine (lives15 _ (hT.below hl1)).mono ?_; rintro e W1 ⟨rfl, hb1⟩; have HF := Lib.hid (hl1.trans (hb1.mono hl1.size)))
        | fail)
      go_ret
      exact ⟨rfl, HF.out⟩
    · have q1 : decide ((3000 : Int) < (s.length : Int)) = false := by simp; omega
      have q2 : decide ((2000 : Int) < (i.l.length : Int)) = true := by simp; omega
      clear hok hl
      go_enter Tryd.func4, Tryd.ntmps4
      go_wp2_with (first
        | (refine wpL_rbox (cs := icells i) rfl (.tmp 1) rfl rfl ?_; intro W0 b hN; obtain ⟨hb, hr, hl1, hz⟩ := hN; have c2 := icell2 hr.out)
        | (go_at_call 6; refine (lives15 _ (hT.below hl1)).mono ?_; rintro e W1 ⟨rfl, hb1⟩; have HF := Lib.hid (hl1.trans (hb1.mono hl1.size)))
        | fail)
      go_ret
      exact ⟨rfl, HF.out⟩
  · have q1 : decide ((3000 : Int) < (s.length : Int)) = false := by simp; omega
    have q2 : decide ((2000 : Int) < (i.l.length : Int)) = false := by simp; omega
    have hsl : s.length ≤ 3000 := by omega
    have hil : i.l.length ≤ 2000 := by omega
    have hal := ird_len s
    have haok := ird_ok s
    have hmr := make_read (s := s)
    have HRA := Lib.hid (fun W h => iread_any s W (by omega) h)
    have HRB := Lib.hid (fun W => riread_any s W (by omega))
    generalize ird s = r at *
    obtain ⟨a, E⟩ := r
    dsimp only at hal haok hmr HRA HRB
    have HA8 := Lib.hid haok.2.2.1
    have HI8 := Lib.hid hok.2.2.1
    have h08 : I0.T.length = 8 := rfl
    have HP := Lib.hid (fun W => iplain_any a W haok)
    have HMA := Lib.hid (fun W h => imake_any a W haok (by omega) h)
    have HMI := Lib.hid (fun W h => imake_any i W hok (by omega) h)
    have HL := Lib.hid (fun W h => lives15 W h)
    have qE : (E != E) = false := bne_self_eq_false _
    have hcase := made_cases i hok
    have hEc : (E = 0 ∧ imk a = (s, 0)) ∨ (E == 0) = false := by
      by_cases h : E = 0
      · exact .inl ⟨h, hmr h⟩
      · exact .inr (by rw [beq_eq_false_iff_ne]; exact h)
    clear hl hal haok hmr hok
    rcases hEc with ⟨rfl, hEm⟩ | hEm
    · rw [hEm] at HMA
      dsimp only at HMA
      have qs : ((str s).toList != (str s).toList) = false := bne_self_eq_false _
      rcases hcase with ⟨Si, hmi, hri, hsl2⟩ | ⟨Si, Ei, hmi, hEi⟩
      · rw [hmi] at HMI
        dsimp only at HMI
        have hrs := fun W h => iread_any Si W (by omega) h
        rw [hri] at hrs
        have HRS := Lib.hid hrs
        clear hmi hri hsl2 hrs
        go_enter Tryd.func4, Tryd.ntmps4
        go_wp2_with (first
          | (refine wpL_rbox (cs := icells i) rfl (.tmp 1) rfl rfl ?_; intro W0 b3 hN; obtain ⟨hb, hr, hl1, hz⟩ := hN; have c2 := icell2 hr.out)
          | fail)
        clear c2
        refine (HRA.out _ (hT.below hl1)).mono ?_
        rintro e w1 ⟨rfl, hb1⟩
        have R1 := Lib.hid (row_below hr.out hb1)
        have B1 := Lib.hid (hl1.trans (hb1.mono hl1.size))
        clear hr hl1 hz hb1 hb HRA
        go_wp2_with (first
          | (refine imA.wpNew (o := ⟨some 5, _, _, _, _, _⟩) rfl rfl ?_; intro W2 b5 hN; obtain ⟨hb5, hr5, hl5, hz5⟩ := hN
             have R2 := Lib.hid (row_below R1.out hl5)
             have B2 := Lib.hid (B1.out.trans (hl5.mono B1.out.size))
             have h35 : b3 ≠ b5 := by have := (Array.getElem?_eq_some_iff.1 R1.out).1; have := hb5.out; omega
             have h5w : w.heap.size ≤ b5 := by have := hb5.out; have := B1.out.size; omega)
          | (refine imA.wpStore rfl (.tmp 5) (.tmp 28) rfl rfl rfl hr5.out h08 HA8.out ?_; intro W3 S3 hg3 hz3
             have R3 := Lib.hid (row_far R2.out hg3 (fun e => h35 (Option.some.inj e)))
             have B3 := Lib.hid (B2.out.grown hg3 B2.out.size (fun k e => by cases e; exact h5w))
             clear hr5 hl5 hz5 hg3 hz3 hb5 R1 B1 R2 B2)
          | fail)
        refine (HRB.out _).mono ?_
        rintro e w4 ⟨rfl, hb4⟩
        have R4 := Lib.hid (row_below R3.out hb4)
        have S4 := Lib.hid (row_below S3.out hb4)
        have B4 := Lib.hid (B3.out.trans (hb4.mono B3.out.size))
        clear hb4 R3 S3 B3 HRB
        go_wp2_with (first
          | (refine imB.wpNew (o := ⟨some 7, _, _, _, _, _⟩) rfl rfl ?_; intro W5 b7 hN; obtain ⟨hb7, hr7, hl7, hz7⟩ := hN
             have R5 := Lib.hid (row_below R4.out hl7)
             have S5 := Lib.hid (row_below S4.out hl7)
             have B5 := Lib.hid (B4.out.trans (hl7.mono B4.out.size))
             have h37 : b3 ≠ b7 := by have := (Array.getElem?_eq_some_iff.1 R4.out).1; have := hb7.out; omega
             have h57 : b5 ≠ b7 := by have := (Array.getElem?_eq_some_iff.1 S4.out).1; have := hb7.out; omega
             have h7w : w.heap.size ≤ b7 := by have := hb7.out; have := B4.out.size; omega)
          | (refine imB.wpStore rfl (.tmp 7) (.tmp 33) rfl rfl rfl hr7.out h08 HA8.out ?_; intro W T7 hg7 hz7'
             have R := Lib.hid (row_far R5.out hg7 (fun e => h37 (Option.some.inj e)))
             have S := Lib.hid (row_far S5.out hg7 (fun e => h57 (Option.some.inj e)))
             have B := Lib.hid (B5.out.grown hg7 B5.out.size (fun k e => by cases e; exact h7w))
             clear hr7 hl7 hz7 hg7 hz7' hb7 R4 S4 B4 R5 S5 B5)
          | fail)
        have h5W : b5 < W.heap.size := (Array.getElem?_eq_some_iff.1 S.out).1
        have h7W : b7 < W.heap.size := (Array.getElem?_eq_some_iff.1 T7.out).1
        refine wp_low W.heap.size [([0, 2], 1)] [3, 4, 5, 6, 7, 8] (by kernel_rfl) (by kernel_rfl) (fun d _ _ _ _ h => by cases d <;> exact h) (Nat.le_refl _) fun wd hbd => ?_
        intro q hq
        simp only [pickI, Option.toList_some, List.cons_append, List.nil_append, List.getElem?_toArray, List.getElem?_cons_succ, List.getElem?_cons_zero]
        try go_frame
        refine imA.wpQload (by rfl) (.tmp 5) rfl rfl (fun W hW => by obtain ⟨z, rfl⟩ := hW; exact below_row (hq z) S.out h5W) HA8.out ?_
        try go_frame
        refine imB.wpQload (by rfl) (.tmp 7) rfl rfl (fun W hW => by obtain ⟨z, rfl⟩ := hW; exact below_row (hq z) T7.out h7W) HA8.out ?_
        try go_frame
        refine wpQuiet_nil ?_
        clear hq q
        refine seg_op (by simp only [List.getElem?_toArray, List.getElem?_cons_succ, List.getElem?_cons_zero]; rfl) fun K hK => ?_
        go_simp
        refine (HP.out _).mono ?_
        rintro e v0 ⟨rfl, bv0⟩
        have zv0 := hbd.trans (bv0.mono hbd.size)
        refine hK.out _ _ (seg_keep zv0 ?_)
        clear hK K
        intro q hq
        simp only [pickI, Option.toList_some, List.cons_append, List.nil_append, List.getElem?_toArray, List.getElem?_cons_succ, List.getElem?_cons_zero]
        try go_frame
        refine imB.wpQneq (by rfl) (.tmp 36) (.tmp 37) _ rfl rfl rfl HA8.out HA8.out (b := false) (by simp) ?_
        try go_frame
        go_big_quiet_step (fail)
        go_big_quiet_step (fail)
        go_big_quiet_step (fail)
        go_big_quiet_step (fail)
        go_big_quiet_step (fail)
        refine wpQuiet_nil ?_
        clear hq q
        have R6 := Lib.hid (below_row zv0 R.out (Array.getElem?_eq_some_iff.1 R.out).1)
        have S6 := Lib.hid (below_row zv0 S.out h5W)
        have B6 := Lib.hid (B.out.trans (zv0.mono B.out.size))
        clear zv0 bv0 hbd R S T7 B HP h7W
        go_wp2_with (first
          | (refine imA.wpLoad (by rfl) (.tmp 5) rfl rfl S6.out HA8.out ?_)
          | fail)
        refine (HMA.out _ (hT.below B6.out)).mono ?_
        rintro e w7 ⟨rfl, hb7⟩
        have R7 := Lib.hid (row_below R6.out hb7)
        have B7 := Lib.hid (B6.out.trans (hb7.mono B6.out.size))
        clear hb7 R6 S6 B6 HMA
        go_wp2_with (first
          | (refine imA.wpLoad (by rfl) (.tmp 3) rfl rfl R7.out HI8.out ?_)
          | fail)
        refine (HMI.out _ (hT.below B7.out)).mono ?_
        rintro e w8 ⟨rfl, hb8⟩
        have R8 := Lib.hid (row_below R7.out hb8)
        have B8 := Lib.hid (B7.out.trans (hb8.mono B7.out.size))
        clear hb8 R7 B7 HMI
        go_wp2_with (fail)
        refine (HRS.out _ (hT.below B8.out)).mono ?_
        rintro e w9 ⟨rfl, hb9⟩
        have R9 := Lib.hid (row_below R8.out hb9)
        have B9 := Lib.hid (B8.out.trans (hb9.mono B8.out.size))
        clear hb9 R8 B8 HRS
        go_wp2_with (first
          | (refine imA.wpNew (o := ⟨some 13, _, _, _, _, _⟩) rfl rfl ?_; intro W10 b13 hN; obtain ⟨hb13, hr13, hl13, hz13⟩ := hN
             have R10 := Lib.hid (row_below R9.out hl13)
             have B10 := Lib.hid (B9.out.trans (hl13.mono B9.out.size))
             have h313 : b3 ≠ b13 := by have := (Array.getElem?_eq_some_iff.1 R9.out).1; have := hb13.out; omega
             have h13w : w.heap.size ≤ b13 := by have := hb13.out; have := B9.out.size; omega)
          | (refine imA.wpStore rfl (.tmp 13) (.tmp 71) rfl rfl rfl hr13.out h08 HI8.out ?_; intro W11 S11 hg11 hz11
             have R11 := Lib.hid (row_far R10.out hg11 (fun e => h313 (Option.some.inj e)))
             have B11 := Lib.hid (B10.out.grown hg11 B10.out.size (fun k e => by cases e; exact h13w))
             clear hr13 hl13 hz13 hg11 hz11 hb13 R9 B9 R10 B10)
          | (refine imA.wpLoad (by rfl) (.tmp 13) rfl rfl S11.out HI8.out ?_)
          | (refine imA.wpLoad (by rfl) (.tmp 3) rfl rfl R11.out HI8.out ?_)
          | (refine imA.wpEql (by rfl) (.tmp 76) (.tmp 77) _ rfl rfl rfl HI8.out HI8.out (b := true) (by simp) ?_)
          | (go_at_call 6; refine (HL.out _ (hT.below B11.out)).mono ?_; rintro e W12 ⟨rfl, hb12⟩; have HF := Lib.hid (B11.out.trans (hb12.mono B11.out.size)))
          | fail)
        go_ret
        exact ⟨rfl, HF.out⟩
      · rw [hmi] at HMI
        dsimp only at HMI
        have qEi : (Ei != 0) = true := by rw [bne_iff_ne]; exact hEi
        clear hmi hEi
        go_enter Tryd.func4, Tryd.ntmps4
        go_wp2_with (first
          | (refine wpL_rbox (cs := icells i) rfl (.tmp 1) rfl rfl ?_; intro W0 b3 hN; obtain ⟨hb, hr, hl1, hz⟩ := hN; have c2 := icell2 hr.out)
          | fail)
        clear c2
        refine (HRA.out _ (hT.below hl1)).mono ?_
        rintro e w1 ⟨rfl, hb1⟩
        have R1 := Lib.hid (row_below hr.out hb1)
        have B1 := Lib.hid (hl1.trans (hb1.mono hl1.size))
        clear hr hl1 hz hb1 hb HRA
        go_wp2_with (first
          | (refine imA.wpNew (o := ⟨some 5, _, _, _, _, _⟩) rfl rfl ?_; intro W2 b5 hN; obtain ⟨hb5, hr5, hl5, hz5⟩ := hN
             have R2 := Lib.hid (row_below R1.out hl5)
             have B2 := Lib.hid (B1.out.trans (hl5.mono B1.out.size))
             have h35 : b3 ≠ b5 := by have := (Array.getElem?_eq_some_iff.1 R1.out).1; have := hb5.out; omega
             have h5w : w.heap.size ≤ b5 := by have := hb5.out; have := B1.out.size; omega)
          | (refine imA.wpStore rfl (.tmp 5) (.tmp 28) rfl rfl rfl hr5.out h08 HA8.out ?_; intro W3 S3 hg3 hz3
             have R3 := Lib.hid (row_far R2.out hg3 (fun e => h35 (Option.some.inj e)))
             have B3 := Lib.hid (B2.out.grown hg3 B2.out.size (fun k e => by cases e; exact h5w))
             clear hr5 hl5 hz5 hg3 hz3 hb5 R1 B1 R2 B2)
          | fail)
        refine (HRB.out _).mono ?_
        rintro e w4 ⟨rfl, hb4⟩
        have R4 := Lib.hid (row_below R3.out hb4)
        have S4 := Lib.hid (row_below S3.out hb4)
        have B4 := Lib.hid (B3.out.trans (hb4.mono B3.out.size))
        clear hb4 R3 S3 B3 HRB
        go_wp2_with (first
          | (refine imB.wpNew (o := ⟨some 7, _, _, _, _, _⟩) rfl rfl ?_; intro W5 b7 hN; obtain ⟨hb7, hr7, hl7, hz7⟩ := hN
             have R5 := Lib.hid (row_below R4.out hl7)
             have S5 := Lib.hid (row_below S4.out hl7)
             have B5 := Lib.hid (B4.out.trans (hl7.mono B4.out.size))
             have h37 : b3 ≠ b7 := by have := (Array.getElem?_eq_some_iff.1 R4.out).1; have := hb7.out; omega
             have h57 : b5 ≠ b7 := by have := (Array.getElem?_eq_some_iff.1 S4.out).1; have := hb7.out; omega
             have h7w : w.heap.size ≤ b7 := by have := hb7.out; have := B4.out.size; omega)
          | (refine imB.wpStore rfl (.tmp 7) (.tmp 33) rfl rfl rfl hr7.out h08 HA8.out ?_; intro W T7 hg7 hz7'
             have R := Lib.hid (row_far R5.out hg7 (fun e => h37 (Option.some.inj e)))
             have S := Lib.hid (row_far S5.out hg7 (fun e => h57 (Option.some.inj e)))
             have B := Lib.hid (B5.out.grown hg7 B5.out.size (fun k e => by cases e; exact h7w))
             clear hr7 hl7 hz7 hg7 hz7' hb7 R4 S4 B4 R5 S5 B5)
          | fail)
        have h5W : b5 < W.heap.size := (Array.getElem?_eq_some_iff.1 S.out).1
        have h7W : b7 < W.heap.size := (Array.getElem?_eq_some_iff.1 T7.out).1
        refine wp_low W.heap.size [([0, 2], 1)] [3, 4, 5, 6, 7, 8] (by kernel_rfl) (by kernel_rfl) (fun d _ _ _ _ h => by cases d <;> exact h) (Nat.le_refl _) fun wd hbd => ?_
        intro q hq
        simp only [pickI, Option.toList_some, List.cons_append, List.nil_append, List.getElem?_toArray, List.getElem?_cons_succ, List.getElem?_cons_zero]
        try go_frame
        refine imA.wpQload (by rfl) (.tmp 5) rfl rfl (fun W hW => by obtain ⟨z, rfl⟩ := hW; exact below_row (hq z) S.out h5W) HA8.out ?_
        try go_frame
        refine imB.wpQload (by rfl) (.tmp 7) rfl rfl (fun W hW => by obtain ⟨z, rfl⟩ := hW; exact below_row (hq z) T7.out h7W) HA8.out ?_
        try go_frame
        refine wpQuiet_nil ?_
        clear hq q
        refine seg_op (by simp only [List.getElem?_toArray, List.getElem?_cons_succ, List.getElem?_cons_zero]; rfl) fun K hK => ?_
        go_simp
        refine (HP.out _).mono ?_
        rintro e v0 ⟨rfl, bv0⟩
        have zv0 := hbd.trans (bv0.mono hbd.size)
        refine hK.out _ _ (seg_keep zv0 ?_)
        clear hK K
        intro q hq
        simp only [pickI, Option.toList_some, List.cons_append, List.nil_append, List.getElem?_toArray, List.getElem?_cons_succ, List.getElem?_cons_zero]
        try go_frame
        refine imB.wpQneq (by rfl) (.tmp 36) (.tmp 37) _ rfl rfl rfl HA8.out HA8.out (b := false) (by simp) ?_
        try go_frame
        go_big_quiet_step (fail)
        go_big_quiet_step (fail)
        go_big_quiet_step (fail)
        go_big_quiet_step (fail)
        go_big_quiet_step (fail)
        refine wpQuiet_nil ?_
        clear hq q
        have R6 := Lib.hid (below_row zv0 R.out (Array.getElem?_eq_some_iff.1 R.out).1)
        have S6 := Lib.hid (below_row zv0 S.out h5W)
        have B6 := Lib.hid (B.out.trans (zv0.mono B.out.size))
        clear zv0 bv0 hbd R S T7 B HP h7W
        go_wp2_with (first
          | (refine imA.wpLoad (by rfl) (.tmp 5) rfl rfl S6.out HA8.out ?_)
          | fail)
        refine (HMA.out _ (hT.below B6.out)).mono ?_
        rintro e w7 ⟨rfl, hb7⟩
        have R7 := Lib.hid (row_below R6.out hb7)
        have B7 := Lib.hid (B6.out.trans (hb7.mono B6.out.size))
        clear hb7 R6 S6 B6 HMA
        go_wp2_with (first
          | (refine imA.wpLoad (by rfl) (.tmp 3) rfl rfl R7.out HI8.out ?_)
          | fail)
        refine (HMI.out _ (hT.below B7.out)).mono ?_
        rintro e w8 ⟨rfl, hb8⟩
        have R8 := Lib.hid (row_below R7.out hb8)
        have B8 := Lib.hid (B7.out.trans (hb8.mono B7.out.size))
        clear hb8 R7 B7 HMI
        go_wp2_with (first
          | (go_at_call 6; refine (HL.out _ (hT.below B8.out)).mono ?_; rintro e W12 ⟨rfl, hb12⟩; have HF := Lib.hid (B8.out.trans (hb12.mono B8.out.size)))
          | fail)
        go_ret
        exact ⟨rfl, HF.out⟩
    · generalize imk a = ma at *
      obtain ⟨ta, ga⟩ := ma
      dsimp only at HMA
      rcases hcase with ⟨Si, hmi, hri, hsl2⟩ | ⟨Si, Ei, hmi, hEi⟩
      · rw [hmi] at HMI
        dsimp only at HMI
        have hrs := fun W h => iread_any Si W (by omega) h
        rw [hri] at hrs
        have HRS := Lib.hid hrs
        clear hmi hri hsl2 hrs
        go_enter Tryd.func4, Tryd.ntmps4
        go_wp2_with (first
          | (refine wpL_rbox (cs := icells i) rfl (.tmp 1) rfl rfl ?_; intro W0 b3 hN; obtain ⟨hb, hr, hl1, hz⟩ := hN; have c2 := icell2 hr.out)
          | fail)
        clear c2
        refine (HRA.out _ (hT.below hl1)).mono ?_
        rintro e w1 ⟨rfl, hb1⟩
        have R1 := Lib.hid (row_below hr.out hb1)
        have B1 := Lib.hid (hl1.trans (hb1.mono hl1.size))
        clear hr hl1 hz hb1 hb HRA
        go_wp2_with (first
          | (refine imA.wpNew (o := ⟨some 5, _, _, _, _, _⟩) rfl rfl ?_; intro W2 b5 hN; obtain ⟨hb5, hr5, hl5, hz5⟩ := hN
             have R2 := Lib.hid (row_below R1.out hl5)
             have B2 := Lib.hid (B1.out.trans (hl5.mono B1.out.size))
             have h35 : b3 ≠ b5 := by have := (Array.getElem?_eq_some_iff.1 R1.out).1; have := hb5.out; omega
             have h5w : w.heap.size ≤ b5 := by have := hb5.out; have := B1.out.size; omega)
          | (refine imA.wpStore rfl (.tmp 5) (.tmp 28) rfl rfl rfl hr5.out h08 HA8.out ?_; intro W3 S3 hg3 hz3
             have R3 := Lib.hid (row_far R2.out hg3 (fun e => h35 (Option.some.inj e)))
             have B3 := Lib.hid (B2.out.grown hg3 B2.out.size (fun k e => by cases e; exact h5w))
             clear hr5 hl5 hz5 hg3 hz3 hb5 R1 B1 R2 B2)
          | fail)
        refine (HRB.out _).mono ?_
        rintro e w4 ⟨rfl, hb4⟩
        have R4 := Lib.hid (row_below R3.out hb4)
        have S4 := Lib.hid (row_below S3.out hb4)
        have B4 := Lib.hid (B3.out.trans (hb4.mono B3.out.size))
        clear hb4 R3 S3 B3 HRB
        go_wp2_with (first
          | (refine imB.wpNew (o := ⟨some 7, _, _, _, _, _⟩) rfl rfl ?_; intro W5 b7 hN; obtain ⟨hb7, hr7, hl7, hz7⟩ := hN
             have R5 := Lib.hid (row_below R4.out hl7)
             have S5 := Lib.hid (row_below S4.out hl7)
             have B5 := Lib.hid (B4.out.trans (hl7.mono B4.out.size))
             have h37 : b3 ≠ b7 := by have := (Array.getElem?_eq_some_iff.1 R4.out).1; have := hb7.out; omega
             have h57 : b5 ≠ b7 := by have := (Array.getElem?_eq_some_iff.1 S4.out).1; have := hb7.out; omega
             have h7w : w.heap.size ≤ b7 := by have := hb7.out; have := B4.out.size; omega)
          | (refine imB.wpStore rfl (.tmp 7) (.tmp 33) rfl rfl rfl hr7.out h08 HA8.out ?_; intro W T7 hg7 hz7'
             have R := Lib.hid (row_far R5.out hg7 (fun e => h37 (Option.some.inj e)))
             have S := Lib.hid (row_far S5.out hg7 (fun e => h57 (Option.some.inj e)))
             have B := Lib.hid (B5.out.grown hg7 B5.out.size (fun k e => by cases e; exact h7w))
             clear hr7 hl7 hz7 hg7 hz7' hb7 R4 S4 B4 R5 S5 B5)
          | fail)
        have h5W : b5 < W.heap.size := (Array.getElem?_eq_some_iff.1 S.out).1
        have h7W : b7 < W.heap.size := (Array.getElem?_eq_some_iff.1 T7.out).1
        refine wp_low W.heap.size [([0, 2], 1)] [3, 4, 5, 6, 7, 8] (by kernel_rfl) (by kernel_rfl) (fun d _ _ _ _ h => by cases d <;> exact h) (Nat.le_refl _) fun wd hbd => ?_
        intro q hq
        simp only [pickI, Option.toList_some, List.cons_append, List.nil_append, List.getElem?_toArray, List.getElem?_cons_succ, List.getElem?_cons_zero]
        try go_frame
        refine imA.wpQload (by rfl) (.tmp 5) rfl rfl (fun W hW => by obtain ⟨z, rfl⟩ := hW; exact below_row (hq z) S.out h5W) HA8.out ?_
        try go_frame
        refine imB.wpQload (by rfl) (.tmp 7) rfl rfl (fun W hW => by obtain ⟨z, rfl⟩ := hW; exact below_row (hq z) T7.out h7W) HA8.out ?_
        try go_frame
        refine wpQuiet_nil ?_
        clear hq q
        refine seg_op (by simp only [List.getElem?_toArray, List.getElem?_cons_succ, List.getElem?_cons_zero]; rfl) fun K hK => ?_
        go_simp
        refine (HP.out _).mono ?_
        rintro e v0 ⟨rfl, bv0⟩
        have zv0 := hbd.trans (bv0.mono hbd.size)
        refine hK.out _ _ (seg_keep zv0 ?_)
        clear hK K
        intro q hq
        simp only [pickI, Option.toList_some, List.cons_append, List.nil_append, List.getElem?_toArray, List.getElem?_cons_succ, List.getElem?_cons_zero]
        try go_frame
        refine imB.wpQneq (by rfl) (.tmp 36) (.tmp 37) _ rfl rfl rfl HA8.out HA8.out (b := false) (by simp) ?_
        try go_frame
        go_big_quiet_step (fail)
        go_big_quiet_step (fail)
        go_big_quiet_step (fail)
        go_big_quiet_step (fail)
        go_big_quiet_step (fail)
        refine wpQuiet_nil ?_
        clear hq q
        have R6 := Lib.hid (below_row zv0 R.out (Array.getElem?_eq_some_iff.1 R.out).1)
        have S6 := Lib.hid (below_row zv0 S.out h5W)
        have B6 := Lib.hid (B.out.trans (zv0.mono B.out.size))
        clear zv0 bv0 hbd R S T7 B HP h7W
        go_wp2_with (first
          | (refine imA.wpLoad (by rfl) (.tmp 5) rfl rfl S6.out HA8.out ?_)
          | fail)
        refine (HMA.out _ (hT.below B6.out)).mono ?_
        rintro e w7 ⟨rfl, hb7⟩
        have R7 := Lib.hid (row_below R6.out hb7)
        have B7 := Lib.hid (B6.out.trans (hb7.mono B6.out.size))
        clear hb7 R6 S6 B6 HMA
        go_wp2_with (first
          | (refine imA.wpLoad (by rfl) (.tmp 3) rfl rfl R7.out HI8.out ?_)
          | fail)
        refine (HMI.out _ (hT.below B7.out)).mono ?_
        rintro e w8 ⟨rfl, hb8⟩
        have R8 := Lib.hid (row_below R7.out hb8)
        have B8 := Lib.hid (B7.out.trans (hb8.mono B7.out.size))
        clear hb8 R7 B7 HMI
        go_wp2_with (fail)
        refine (HRS.out _ (hT.below B8.out)).mono ?_
        rintro e w9 ⟨rfl, hb9⟩
        have R9 := Lib.hid (row_below R8.out hb9)
        have B9 := Lib.hid (B8.out.trans (hb9.mono B8.out.size))
        clear hb9 R8 B8 HRS
        go_wp2_with (first
          | (refine imA.wpNew (o := ⟨some 13, _, _, _, _, _⟩) rfl rfl ?_; intro W10 b13 hN; obtain ⟨hb13, hr13, hl13, hz13⟩ := hN
             have R10 := Lib.hid (row_below R9.out hl13)
             have B10 := Lib.hid (B9.out.trans (hl13.mono B9.out.size))
             have h313 : b3 ≠ b13 := by have := (Array.getElem?_eq_some_iff.1 R9.out).1; have := hb13.out; omega
             have h13w : w.heap.size ≤ b13 := by have := hb13.out; have := B9.out.size; omega)
          | (refine imA.wpStore rfl (.tmp 13) (.tmp 71) rfl rfl rfl hr13.out h08 HI8.out ?_; intro W11 S11 hg11 hz11
             have R11 := Lib.hid (row_far R10.out hg11 (fun e => h313 (Option.some.inj e)))
             have B11 := Lib.hid (B10.out.grown hg11 B10.out.size (fun k e => by cases e; exact h13w))
             clear hr13 hl13 hz13 hg11 hz11 hb13 R9 B9 R10 B10)
          | (refine imA.wpLoad (by rfl) (.tmp 13) rfl rfl S11.out HI8.out ?_)
          | (refine imA.wpLoad (by rfl) (.tmp 3) rfl rfl R11.out HI8.out ?_)
          | (refine imA.wpEql (by rfl) (.tmp 76) (.tmp 77) _ rfl rfl rfl HI8.out HI8.out (b := true) (by simp) ?_)
          | (go_at_call 6; refine (HL.out _ (hT.below B11.out)).mono ?_; rintro e W12 ⟨rfl, hb12⟩; have HF := Lib.hid (B11.out.trans (hb12.mono B11.out.size)))
          | fail)
        go_ret
        exact ⟨rfl, HF.out⟩
      · rw [hmi] at HMI
        dsimp only at HMI
        have qEi : (Ei != 0) = true := by rw [bne_iff_ne]; exact hEi
        clear hmi hEi
        go_enter Tryd.func4, Tryd.ntmps4
        go_wp2_with (first
          | (refine wpL_rbox (cs := icells i) rfl (.tmp 1) rfl rfl ?_; intro W0 b3 hN; obtain ⟨hb, hr, hl1, hz⟩ := hN; have c2 := icell2 hr.out)
          | fail)
        clear c2
        refine (HRA.out _ (hT.below hl1)).mono ?_
        rintro e w1 ⟨rfl, hb1⟩
        have R1 := Lib.hid (row_below hr.out hb1)
        have B1 := Lib.hid (hl1.trans (hb1.mono hl1.size))
        clear hr hl1 hz hb1 hb HRA
        go_wp2_with (first
          | (refine imA.wpNew (o := ⟨some 5, _, _, _, _, _⟩) rfl rfl ?_; intro W2 b5 hN; obtain ⟨hb5, hr5, hl5, hz5⟩ := hN
             have R2 := Lib.hid (row_below R1.out hl5)
             have B2 := Lib.hid (B1.out.trans (hl5.mono B1.out.size))
             have h35 : b3 ≠ b5 := by have := (Array.getElem?_eq_some_iff.1 R1.out).1; have := hb5.out; omega
             have h5w : w.heap.size ≤ b5 := by have := hb5.out; have := B1.out.size; omega)
          | (refine imA.wpStore rfl (.tmp 5) (.tmp 28) rfl rfl rfl hr5.out h08 HA8.out ?_; intro W3 S3 hg3 hz3
             have R3 := Lib.hid (row_far R2.out hg3 (fun e => h35 (Option.some.inj e)))
             have B3 := Lib.hid (B2.out.grown hg3 B2.out.size (fun k e => by cases e; exact h5w))
             clear hr5 hl5 hz5 hg3 hz3 hb5 R1 B1 R2 B2)
          | fail)
        refine (HRB.out _).mono ?_
        rintro e w4 ⟨rfl, hb4⟩
        have R4 := Lib.hid (row_below R3.out hb4)
        have S4 := Lib.hid (row_below S3.out hb4)
        have B4 := Lib.hid (B3.out.trans (hb4.mono B3.out.size))
        clear hb4 R3 S3 B3 HRB
        go_wp2_with (first
          | (refine imB.wpNew (o := ⟨some 7, _, _, _, _, _⟩) rfl rfl ?_; intro W5 b7 hN; obtain ⟨hb7, hr7, hl7, hz7⟩ := hN
             have R5 := Lib.hid (row_below R4.out hl7)
             have S5 := Lib.hid (row_below S4.out hl7)
             have B5 := Lib.hid (B4.out.trans (hl7.mono B4.out.size))
             have h37 : b3 ≠ b7 := by have := (Array.getElem?_eq_some_iff.1 R4.out).1; have := hb7.out; omega
             have h57 : b5 ≠ b7 := by have := (Array.getElem?_eq_some_iff.1 S4.out).1; have := hb7.out; omega
             have h7w : w.heap.size ≤ b7 := by have := hb7.out; have := B4.out.size; omega)
          | (refine imB.wpStore rfl (.tmp 7) (.tmp 33) rfl rfl rfl hr7.out h08 HA8.out ?_; intro W T7 hg7 hz7'
             have R := Lib.hid (row_far R5.out hg7 (fun e => h37 (Option.some.inj e)))
             have S := Lib.hid (row_far S5.out hg7 (fun e => h57 (Option.some.inj e)))
             have B := Lib.hid (B5.out.grown hg7 B5.out.size (fun k e => by cases e; exact h7w))
             clear hr7 hl7 hz7 hg7 hz7' hb7 R4 S4 B4 R5 S5 B5)
          | fail)
        have h5W : b5 < W.heap.size := (Array.getElem?_eq_some_iff.1 S.out).1
        have h7W : b7 < W.heap.size := (Array.getElem?_eq_some_iff.1 T7.out).1
        refine wp_low W.heap.size [([0, 2], 1)] [3, 4, 5, 6, 7, 8] (by kernel_rfl) (by kernel_rfl) (fun d _ _ _ _ h => by cases d <;> exact h) (Nat.le_refl _) fun wd hbd => ?_
        intro q hq
        simp only [pickI, Option.toList_some, List.cons_append, List.nil_append, List.getElem?_toArray, List.getElem?_cons_succ, List.getElem?_cons_zero]
        try go_frame
        refine imA.wpQload (by rfl) (.tmp 5) rfl rfl (fun W hW => by obtain ⟨z, rfl⟩ := hW; exact below_row (hq z) S.out h5W) HA8.out ?_
        try go_frame
        refine imB.wpQload (by rfl) (.tmp 7) rfl rfl (fun W hW => by obtain ⟨z, rfl⟩ := hW; exact below_row (hq z) T7.out h7W) HA8.out ?_
        try go_frame
        refine wpQuiet_nil ?_
        clear hq q
        refine seg_op (by simp only [List.getElem?_toArray, List.getElem?_cons_succ, List.getElem?_cons_zero]; rfl) fun K hK => ?_
        go_simp
        refine (HP.out _).mono ?_
        rintro e v0 ⟨rfl, bv0⟩
        have zv0 := hbd.trans (bv0.mono hbd.size)
        refine hK.out _ _ (seg_keep zv0 ?_)
        clear hK K
        intro q hq
        simp only [pickI, Option.toList_some, List.cons_append, List.nil_append, List.getElem?_toArray, List.getElem?_cons_succ, List.getElem?_cons_zero]
        try go_frame
        refine imB.wpQneq (by rfl) (.tmp 36) (.tmp 37) _ rfl rfl rfl HA8.out HA8.out (b := false) (by simp) ?_
        try go_frame
        go_big_quiet_step (fail)
        go_big_quiet_step (fail)
        go_big_quiet_step (fail)
        go_big_quiet_step (fail)
        go_big_quiet_step (fail)
        refine wpQuiet_nil ?_
        clear hq q
        have R6 := Lib.hid (below_row zv0 R.out (Array.getElem?_eq_some_iff.1 R.out).1)
        have S6 := Lib.hid (below_row zv0 S.out h5W)
        have B6 := Lib.hid (B.out.trans (zv0.mono B.out.size))
        clear zv0 bv0 hbd R S T7 B HP h7W
        go_wp2_with (first
          | (refine imA.wpLoad (by rfl) (.tmp 5) rfl rfl S6.out HA8.out ?_)
          | fail)
        refine (HMA.out _ (hT.below B6.out)).mono ?_
        rintro e w7 ⟨rfl, hb7⟩
        have R7 := Lib.hid (row_below R6.out hb7)
        have B7 := Lib.hid (B6.out.trans (hb7.mono B6.out.size))
        clear hb7 R6 S6 B6 HMA
        go_wp2_with (first
          | (refine imA.wpLoad (by rfl) (.tmp 3) rfl rfl R7.out HI8.out ?_)
          | fail)
        refine (HMI.out _ (hT.below B7.out)).mono ?_
        rintro e w8 ⟨rfl, hb8⟩
        have R8 := Lib.hid (row_below R7.out hb8)
        have B8 := Lib.hid (B7.out.trans (hb8.mono B7.out.size))
        clear hb8 R7 B7 HMI
        go_wp2_with (first
          | (go_at_call 6; refine (HL.out _ (hT.below B8.out)).mono ?_; rintro e W12 ⟨rfl, hb12⟩; have HF := Lib.hid (B8.out.trans (hb12.mono B8.out.size)))
          | fail)
        go_ret
        exact ⟨rfl, HF.out⟩

theorem imageReads_walk {w : World} (s : List UInt8) (_ : s.length ≤ maxLen) (i : Im) (hi : i.ok) (hT : Tab w) :
    Calls Tryd.prog 4 #[.string (str s), imv i] w fun e w' => e = .returned (.bool true) ∧ Below w.heap.size w w' := imageReads_at s i w hi hT
namespace imageReads
open Go.ChangeShapes Go.WideShapes Go.ChangeAt
set_option maxRecDepth 100000 in
theorem lifted (os : Os) (started : os.Started) (H : Type) (enc : TypeId × Value → H) :
    ReturnsInHanded {} Tryd.checked os 4 .any (fun w args => (Rows.imageReadsSpec.pre enc Tryd.prog Tryd.f4 [] false w args ∧ laidMetH Tryd.prog laidL w) ∧ sizedMet enc Tryd.prog Tryd.f4 (OpenSpec.ofChange Rows.imageReadsSpec) false w args)
      (Rows.imageReadsSpec.post enc Tryd.prog Tryd.f4 false true false false) := by
  refine returnsInHanded_of_change_and (C := Tryd.checked) (X := fun w _ => laidMetH Tryd.prog laidL w) (fun _ _ _ hh h => h.of_heap hh) own started (by kernel_rfl) Tryd.func4
    (ChangeSpec.witness_shaped (enc := enc) (C := Tryd.checked) (os := os) (X := fun w _ => laidMetH Tryd.prog laidL w) false (World.doorLaid Tryd.prog 400 os) #[.string ⟨#[]⟩, .agg #[.int .u64 0, .int .u64 0, .string ⟨#[]⟩, .int .u64 0, .int .u16 0, .int .u64 0, .int .u16 0, .int .u64 0, .int .u16 0, .int .u64 0, .int .u16 0, .int .u64 0, .int .u16 0, .int .u64 0, .int .u16 0, .int .u64 0, .int .u16 0, .int .u64 0, .int .u16 0]] 8 rfl (World.shaped_of_RefB (by kernel_rfl) (by kernel_rfl)) (by kernel_rfl) (by kernel_rfl) (by kernel_rfl) (door_met os _)) ?_
  intro W base args ds gs before hval0 hW _ _ hL _
  have hval : ∀ (j : Nat) t v, Tryd.f4.params[j]? = some t → args[j]? = some v → Value.okWide Tryd.prog W .any base t v := hval0
  have hW' := hW
  obtain ⟨p, q, hA0, hV, rfl, hfz, hnd⟩ := hW
  have hA : DataW.TrodAll enc Tryd.prog W 0 (fun _ => true) true Tryd.f4.params.toList args.toList ds p := hA0
  rw [Tryd.params4] at hA hval
  obtain ⟨v0, vs0, d0, ds0, p0, q0, hargs, rfl, rfl, h0, r0⟩ := trodAll_cons hA
  obtain ⟨v1, vs1, d1, ds1, p1, q1, rfl, rfl, rfl, h1, r1⟩ := trodAll_cons r0
  obtain ⟨rfl, rfl, rfl⟩ := trodAll_nil r1
  obtain rfl : args = #[v0, v1] := by cases args; simp_all
  obtain ⟨rfl, rfl⟩ := trodVars_none hV
  have k0 := h0
  have lt0 : ∀ x ∈ p0, x.block < W.heap.size := by obtain ⟨m, hm⟩ := k0; exact DataW.trod_lt m _ _ _ hm
  obtain ⟨l0, rfl, w0⟩ := dec_string Tryd.underlying9 (hval 0 9 v0 rfl rfl) h0
  have k1 := h1
  have lt1 : ∀ x ∈ p1, x.block < W.heap.size := by obtain ⟨m, hm⟩ := k1; exact DataW.trod_lt m _ _ _ hm
  obtain ⟨o1, rfl, w1⟩ := dec_image imA (by kernel_rfl) (by kernel_rfl) (by kernel_rfl) (by kernel_rfl) cl_one marks_one image_str (hval 1 31 v1 rfl rfl) h1
  clear hA0 hval0
  have hT := of_laid hL
  refine (imageReads_walk l0 w0 o1 w1 hT).mono fun e W' ⟨he, bel⟩ => ?_
  subst he
  exact ⟨_, rfl, _, _, _, [], _, [], hW', trodAll_mk1 (shut_bool Tryd.underlying4 _), (trodAll_cons_mk (Below.trod laidOut (by kernel_rfl) (of_decide_eq_true (by kernel_rfl)) k0 bel lt0) (trodAll_cons_mk (Below.trod laidOut (by kernel_rfl) (of_decide_eq_true (by kernel_rfl)) k1 bel lt1) trodAll_mk0)), rfl, bel.frame _, fun h => by cases h⟩

theorem over : Rows.imageReadsRow.holds Tryd.pinned (OpenSpec.ofChange Rows.imageReadsSpec) :=
  OpenClaim.holds_of_wide 4 Tryd.f4 rfl rfl rfl rfl rfl rfl rfl ⟨rfl, rfl, rfl, rfl, rfl⟩ rfl rfl rfl rfl rfl (by kernel_rfl) Tryd.func4 (by kernel_rfl)
    (of_decide_eq_true (by kernel_rfl)) (by unfold Func.isWrapper; first | (rw [if_pos (by decide +kernel)]; kernel_rfl) | (rw [if_neg (by decide +kernel)]; exact ⟨rfl, rfl⟩))
    (fun os started H enc _ => lifted os started H enc)
theorem row_tie : Rows.imageReadsRow.laidByTextAt .later Tryd.pinned [.data] true := imageReads_row_tie
/-- The given statement: the card. -/
theorem proved : Rows.ImageReadsCardSaid :=
  Claim7.holds_tied_plain_at .later [] [.data] true Rows.imageReadsCard.stood.harness false
    over (fun _ h => by cases h) (by kernel_rfl) (fun _ h => by cases h) row_tie rfl ⟨rfl, rfl⟩ (by kernel_rfl) rfl
    (fun f fn hf hfn => by
      obtain rfl : f = 4 := Option.some.inj ((show Tryd.prog.funcNamed Rows.imageReadsRow.func = some 4 by kernel_rfl).symm.trans hf) |>.symm
      obtain rfl : fn = Tryd.f4 := (Option.some.inj (Tryd.func4.symm.trans hfn)).symm
      exact ⟨by kernel_rfl, fun j t ht => by
        rw [Tryd.params4] at ht
        have hm : t ∈ [9, 31] := by simpa using Array.mem_of_getElem? ht
        have hall : ([9, 31].all fun u => !Tryd.prog.wantsStandIn u) = true := by kernel_rfl
        exact (show Tryd.prog.wantsStandIn t = false by simpa using List.all_eq_true.1 hall t hm)⟩)
    (by kernel_rfl)
end imageReads

end Go.Proofs.YtacaonlahggdeaaDoor
