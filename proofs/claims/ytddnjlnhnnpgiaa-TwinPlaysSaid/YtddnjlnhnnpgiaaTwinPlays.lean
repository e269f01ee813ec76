/- TwinPlays: whatever is saved, whatever is written to the device beside it, and wherever the power goes, each call tells what the document says, and what was saved last is the document's: the law answers true for every list of calls, every base and every size. -/
import Derived.Test.YtddnjlnhnnpgiaaTwrzZ
import Derived.LoopN
import Derived.Deep.DeepCutAuto
import Derived.Deep.CutBlock
namespace Go.Proofs.Ytddnjlnhnnpgiaa
set_option maxRecDepth 20000
open Go.RowKit

set_option maxHeartbeats 8000000 in
theorem twinPlays_at {A : Option Addr} {n c : Nat} {os : List Opt} {w : World} (h : Slc Opt.lay w A n c os) (base size : Int) (hkb : Key base) (hks : Key size) :
    Calls Try.prog 3 #[.slice A n c, .int .i64 base, .int .i64 size] w fun e w' => e = .returned (.bool true) ∧ Below w.heap.size w w' := by
  have hnm := h.rd.2.1
  have hnc := h.rd.1
  have HS := Lib.hid h
  have HKB := Lib.hid hkb
  have HKS := Lib.hid hks
  clear h hkb hks
  by_cases hn : 40 < n
  · have hn' : (40 : Int) < (n : Int) := by omega
    clear hn
    go_enter Try.func3, Try.ntmps3
    go_wp2_with (first
      | (go_at_call 6; refine (lives8 _).mono ?_; rintro e w9 ⟨rfl, hb9⟩)
      | fail)
    go_ret
    exact ⟨rfl, hb9⟩
  have hn' : ¬ (40 : Int) < (n : Int) := by omega
  have hn40 : n ≤ 40 := by omega
  clear hn hnm hnc
  by_cases hin : 1 ≤ size ∧ 0 ≤ base ∧ base + 2 * size ≤ 20
  · have HIN := Lib.hid hin
    clear hin
    go_enter Try.func3, Try.ntmps3
    go_wp2_with (first
      | (go_at_call 7; refine (new_good 20 _ (by omega) (by omega)).mono ?_; rintro e w3 ⟨F3, g, rfl, hD3, hb3⟩
         have HD3 := Lib.hid hD3
         have HB3 := Lib.hid hb3
         clear hD3 hb3)
      | (go_at_call 8; refine (rnew_good 20 _ (by omega) (by omega)).mono ?_; rintro e w4 ⟨rfl, hR4, hb4⟩
         have HP4 := Lib.hid (dp_new HD3.out HB3.out hR4 hb4)
         clear hR4 hb4 HD3 HB3)
      | fail)
    obtain ⟨q, hq⟩ : ∃ q, q = w3.heap.size := ⟨_, rfl⟩
    have hp4 := HP4.out
    rw [← hq] at hp4 ⊢
    refine (dp_open hp4 (by omega) base size HKB.out HKS.out (by decide) rfl (by have := HIN.out; exact ⟨this.1, this.2.1, this.2.2⟩)).mono ?_
    rintro e w5 ⟨T0, U0, A0, m0, c0, rfl, hTP, _⟩
    have hsz : ((size.toNat : Nat) : Int) = size := by have := HIN.out; omega
    have htb0 := tb_open (d := Dv.new 20) base size.toNat (by have := HIN.out; omega) HIN.out.2.1 (by rw [hsz]; exact HIN.out.2.2) (by decide)
    generalize openTv base size.toNat ((Dv.new 20).bytes base (2 * size.toNat)) = t0 at *
    have HTP0 := Lib.hid hTP
    have HTB0 := Lib.hid htb0
    have HN0 : Hid ((Dv.new 20).n = 20) := Lib.hid rfl
    generalize Dv.new 20 = dd0 at *
    clear hp4 HP4 hq hTP htb0
    go_wp2_with (fail)
    go_loopw [10, 11, 68] (fun tr ur ir wr => ∃ (i T U : Nat) (d : Dv) (t : Tv) (A' : Option Addr) (m c' : Nat), i ≤ n ∧ ir = .int .i64 (i : Int) ∧ tr = .pointer (some ⟨T, 0, none⟩) ∧ ur = .pointer (some ⟨U, 0, none⟩) ∧ Hid (TP w wr w.heap.size g q T U (200 * i) d t A' m c') ∧ Hid (TB d t) ∧ Hid (d.n = 20)) (fun _ _ ir _ => n - (intOf ir).toNat)
    case atStart => exact ⟨0, T0, U0, dd0, t0, A0, m0, c0, Nat.zero_le _, rfl, rfl, rfl, HTP0, HTB0, HN0⟩
    case round =>
      obtain ⟨i, T, U, d, t, A', m, c', hi, rfl, rfl, rfl, HT, HB, HDN⟩ := hrel
      have hbel := HT.out.bel
      by_cases hlt : i < n
      · obtain ⟨x, hx⟩ : ∃ x, os[i]? = some x := ⟨_, List.getElem?_eq_getElem (by have := HS.out.len; omega)⟩
        have hrd := HS.out.reads x (List.mem_of_getElem? hx)
        obtain ⟨b, o, rfl, hbb, hcc⟩ := HS.out.at_ (by omega)
        have hc := fun j u hu => (hbel.cell (p := ⟨b, o + (i * 7 + j), none⟩) hbb).trans (hcc i x hx j u hu)
        have k0 : wr.cell? ⟨b, o + i * 7, none⟩ = some (.int .i64 x.kind) := hc 0 _ rfl
        have k1 : wr.cell? ⟨b, o + i * 7 + 1, none⟩ = some (.slice x.textA x.textn x.textc) := hc 1 _ rfl
        have k2 : wr.cell? ⟨b, o + i * 7 + 2, none⟩ = some (.int .i64 x.d.kd) := hc 2 _ rfl
        have k3 : wr.cell? ⟨b, o + i * 7 + 3, none⟩ = some (.int .i64 x.d.x) := hc 3 _ rfl
        have k4 : wr.cell? ⟨b, o + i * 7 + 4, none⟩ = some (.int .i64 x.d.n) := hc 4 _ rfl
        have k5 : wr.cell? ⟨b, o + i * 7 + 5, none⟩ = some (.slice x.d.bA x.d.bn x.d.bc) := hc 5 _ rfl
        have k6 : wr.cell? ⟨b, o + i * 7 + 6, none⟩ = some (.slice x.d.keepA x.d.keepn x.d.keepc) := hc 6 _ rfl
        have HR := Lib.hid hrd
        have hlti : (i : Int) < (n : Int) := by omega
        have hbz := hbel.size
        clear hc hcc hx hrd
        obtain ⟨W0, hW0⟩ : ∃ W0, W0 = wr.alloc (.cells #[.int .i64 x.kind, .slice x.textA x.textn x.textc, .int .i64 x.d.kd, .int .i64 x.d.x, .int .i64 x.d.n, .slice x.d.bA x.d.bn x.d.bc, .slice x.d.keepA x.d.keepn x.d.keepc] 43) := ⟨_, rfl⟩
        have hb0 : Below wr.heap.size wr W0 := by rw [hW0]; exact (Below.refl _ _).alloc (Nat.le_refl _) _
        have r0 : W0.heap[wr.heap.size]? = some (.cells #[.int .i64 x.kind, .slice x.textA x.textn x.textc, .int .i64 x.d.kd, .int .i64 x.d.x, .int .i64 x.d.n, .slice x.d.bA x.d.bn x.d.bc, .slice x.d.keepA x.d.keepn x.d.keepc] 43 (0, 0)) := by rw [hW0]; exact row_here _ _ rfl
        have HW0 := Lib.hid hW0
        have HB0 := Lib.hid hb0
        have HZ0 : Hid (W0.heap.size = wr.heap.size + 1) := Lib.hid (by rw [hW0]; simp)
        have R0 := Lib.hid r0
        clear hW0 hb0 r0
        by_cases ht : 3000 < x.textn
        · have ht2 : (3000 : Int) < (x.textn : Int) := by omega
          clear ht
          go_wp2_with (first
            | (go_at_call 6; refine (lives8 _).mono ?_; rintro e w9 ⟨rfl, hb9⟩)
            | fail)
          go_ret
          exact ⟨rfl, (hbel.alloc hbel.size _).trans (hb9.mono (Nat.le_trans hbel.size (by simp)))⟩
        have ht2 : ¬ (3000 : Int) < (x.textn : Int) := by omega
        have ht3 : x.textn ≤ 3000 := by omega
        clear ht
        go_upto_region 15 with (fail)
        rw [← HW0.out]
        have c0 := cell_of_row W0 _ 0 _ _ _ R0.out
        have c1 := cell_of_row W0 _ 1 _ _ _ R0.out
        have c2 := cell_of_row W0 _ 2 _ _ _ R0.out
        have c3 := cell_of_row W0 _ 3 _ _ _ R0.out
        have c4 := cell_of_row W0 _ 4 _ _ _ R0.out
        have c5 := cell_of_row W0 _ 5 _ _ _ R0.out
        have c6 := cell_of_row W0 _ 6 _ _ _ R0.out
        simp at c0 c1 c2 c3 c4 c5 c6
        clear k0 k1 k2 k3 k4 k5 k6
        have hbx : Below wr.heap.size wr (W0.alloc (.cells x.opd.cells 41)) := HB0.out.trans ((Below.refl _ _).alloc (by have := HZ0.out; omega) _)
        have hops : Ops (W0.alloc (.cells x.opd.cells 41)) (some ⟨W0.heap.size, 0, none⟩) 1 1 [x.opd] := by
          refine ⟨⟨Nat.le_refl _, by decide, rfl, fun _ => ⟨W0.heap.size, 0, rfl, by simp, fun j u hu => ?_⟩⟩, rfl, fun o' ho' => ?_⟩
          · rw [Nat.zero_add, cell_of_row _ W0.heap.size j _ _ _ (heap_alloc_new W0 _)]
            have e5 : opsv [x.opd] = x.opd.cells.toList := by simp [opsv]
            rw [e5] at hu
            simpa using hu
          · obtain rfl := List.mem_singleton.1 ho'
            have h1 := Opt.opd_reads (Opt.below HR.out hbel)
            exact ⟨(h1.1.below hbx).more hbx.size, (h1.2.1.below hbx).more hbx.size, h1.2.2⟩
        have HOPS := Lib.hid hops
        have HBX := Lib.hid hbx
        clear hops hbx
        go_wp2_with (fail)
        refine (light_any HOPS.out).mono ?_
        rintro e w1 ⟨bl, rfl, hfit, hb1⟩
        have HB1 := Lib.hid (HBX.out.trans (hb1.mono HBX.out.size))
        have HZ1 := Lib.hid (show W0.heap.size ≤ w1.heap.size from Nat.le_trans (by simp) hb1.size)
        have R1 := Lib.hid (row_below (row_old (.cells x.opd.cells 41) R0.out) hb1)
        clear c0 c1 c2 c3 c4 c5 c6 hb1 HOPS HBX
        cases bl
        · go_wp2_with (first
            | (go_at_call 6; refine (lives8 _).mono ?_; rintro e w9 ⟨rfl, hb9⟩)
            | fail)
          go_ret
          have hbw := hbel.trans (HB1.out.mono hbel.size)
          exact ⟨rfl, hbw.trans (hb9.mono hbw.size)⟩
        have HFIT := Lib.hid (hfit rfl)
        clear hfit
        have c0 := cell_of_row w1 _ 0 _ _ _ R1.out
        have c1 := cell_of_row w1 _ 1 _ _ _ R1.out
        have c2 := cell_of_row w1 _ 2 _ _ _ R1.out
        have c3 := cell_of_row w1 _ 3 _ _ _ R1.out
        have c4 := cell_of_row w1 _ 4 _ _ _ R1.out
        have c5 := cell_of_row w1 _ 5 _ _ _ R1.out
        have c6 := cell_of_row w1 _ 6 _ _ _ R1.out
        simp at c0 c1 c2 c3 c4 c5 c6
        have HX : Hid (∀ j, (wr.heap.size ≤ j ∧ j < w1.heap.size) → wr.heap.size ≤ j ∧ j < w1.heap.size) := Lib.hid (fun _ h => h)
        have HP1 : Hid (wr.heap.size < w1.heap.size) := Lib.hid (by have := HZ1.out; have := HZ0.out; omega)
        have hrt := HR.out.2.1
        have hrk := HR.out.2.2.2.2.2.2.1
        have HRT := Lib.hid hrt
        have HRK := Lib.hid hrk
        clear hrt hrk HX
        obtain ⟨kd, hkd⟩ : ∃ kd, kd = x.kind := ⟨_, rfl⟩
        rw [← hkd] at c0
        clear hkd
        by_cases h0 : kd = 0
        · subst h0
          have hbd1 : Below wr.heap.size wr w1.drew := HB1.out.drew
          have hT1 := HT.out.below hbd1
          have hts : 0 ≤ t.size ∧ t.size ≤ 65536 := by have h1 := HB.out.s1; have h2 := HB.out.b0; have h3 := HB.out.inn; have h4 := HDN.out; omega
          have HLK := Lib.hid (tp_like hT1 HB.out.zero HB.out.text hts.1 hts.2)
          have HBD1 := Lib.hid hbd1
          have hbad : ∃ F : Nat → Prop, Tw w1.drew T (some ⟨g, 0, none⟩) t ∧ Rtw w1.drew U q t A' m c' := by
            obtain ⟨F, _, k2, k3, _⟩ := hT1
            exact ⟨F, k2, k3⟩
          obtain ⟨_, hTw, hRtw⟩ := hbad
          clear hbd1 hT1
          by_cases hroom : t.room < (x.textn : Int)
          · have HC1 := Lib.hid (twsave_long hTw hts.1 hts.2 x.textA x.textn x.textc hroom (by unfold maxLen; omega))
            have HC2 := Lib.hid (rtsave_long hRtw hts.1 hts.2 x.textA x.textn x.textc hroom)
            clear hTw hRtw hroom hts
            go_upto_region 23 with (fail)
            refine wp_segs [([0, 1, 2, 4, 5, 6], 3), ([], 7), ([8, 9, 10, 11], 12)] [13, 14] (fun z => z.heap[wr.heap.size]? = some (.cells #[.int .i64 x.kind, .slice x.textA x.textn x.textc, .int .i64 x.d.kd, .int .i64 x.d.x, .int .i64 x.d.n, .slice x.d.bA x.d.bn x.d.bc, .slice x.d.keepA x.d.keepn x.d.keepc] 43 (0, 0))) (by kernel_rfl) (by kernel_rfl) (fun d _ _ _ _ h => by cases d <;> exact h) R1.out ?_
            intro f hf
            have d1 : ∀ z, (f z).cell? ⟨wr.heap.size, 1, none⟩ = some (.slice x.textA x.textn x.textc) := fun z => cell_of_row (f z) _ 1 _ _ _ (hf z)
            simp only [pickI, Option.toList_some, List.cons_append, List.nil_append, List.getElem?_toArray, List.getElem?_cons_succ, List.getElem?_cons_zero]
            repeat (go_big_quiet_step (fail))
            refine wpQuiet_nil ?_
            clear d1 hf f
            refine seg_op (by simp only [List.getElem?_toArray, List.getElem?_cons_succ, List.getElem?_cons_zero]; rfl) fun K hK => ?_
            go_simp
            refine (HC1.out).mono ?_
            rintro e w2 ⟨rfl, rfl⟩
            refine hK.out _ _ (seg_keep (show w1.drew.heap[wr.heap.size]? = _ from R1.out) ?_)
            clear hK K
            intro f hf
            refine wpQuiet_nil ?_
            clear hf f
            refine seg_op (by simp only [List.getElem?_toArray, List.getElem?_cons_succ, List.getElem?_cons_zero]; rfl) fun K hK => ?_
            go_simp
            refine (HC2.out).mono ?_
            rintro e w2 ⟨rfl, rfl⟩
            refine hK.out _ _ (seg_keep (show w1.drew.heap[wr.heap.size]? = _ from R1.out) ?_)
            clear hK K
            intro f hf
            simp only [pickI, Option.toList_some, List.cons_append, List.nil_append, List.getElem?_toArray, List.getElem?_cons_succ, List.getElem?_cons_zero]
            repeat (go_big_quiet_step (fail))
            refine wpQuiet_nil ?_
            clear hf f
            refine seg_op (by simp only [List.getElem?_toArray, List.getElem?_cons_succ, List.getElem?_cons_zero]; rfl) fun K hK => ?_
            go_simp
            refine (HLK.out).mono ?_
            rintro e w3' ⟨rfl, hT3, hb3'⟩
            have HT3 := Lib.hid (hT3.mono (show 200 * i ≤ 200 * (i + 1) by omega))
            refine hK.out _ _ (seg_keep (row_below (show w1.drew.heap[wr.heap.size]? = _ from R1.out) hb3') ?_)
            clear hT3 hb3'
            clear hK K
            intro f hf
            simp only [pickI, Option.toList_some, List.cons_append, List.nil_append, List.getElem?_toArray, List.getElem?_cons_succ, List.getElem?_cons_zero]
            repeat (go_big_quiet_step (fail))
            refine wpQuiet_nil ?_
            clear hf f
            go_wp2_with (fail)
            go_roundw
            case rel => exact ⟨i + 1, T, U, d, t, A', m, c', by omega, by go_num, rfl, rfl, HT3, HB, HDN⟩
            case measure => simp [intOf]; omega
          by_cases hnx : t.next = 0
          · have HC1 := Lib.hid (twsave_full hTw hts.1 hts.2 x.textA x.textn x.textc (by omega) hnx)
            have HC2 := Lib.hid (rtsave_full hRtw hts.1 hts.2 x.textA x.textn x.textc (by omega) hnx)
            clear hTw hRtw hroom hts hnx
            go_upto_region 23 with (fail)
            refine wp_segs [([0, 1, 2, 4, 5, 6], 3), ([], 7), ([8, 9, 10, 11], 12)] [13, 14] (fun z => z.heap[wr.heap.size]? = some (.cells #[.int .i64 x.kind, .slice x.textA x.textn x.textc, .int .i64 x.d.kd, .int .i64 x.d.x, .int .i64 x.d.n, .slice x.d.bA x.d.bn x.d.bc, .slice x.d.keepA x.d.keepn x.d.keepc] 43 (0, 0))) (by kernel_rfl) (by kernel_rfl) (fun d _ _ _ _ h => by cases d <;> exact h) R1.out ?_
            intro f hf
            have d1 : ∀ z, (f z).cell? ⟨wr.heap.size, 1, none⟩ = some (.slice x.textA x.textn x.textc) := fun z => cell_of_row (f z) _ 1 _ _ _ (hf z)
            simp only [pickI, Option.toList_some, List.cons_append, List.nil_append, List.getElem?_toArray, List.getElem?_cons_succ, List.getElem?_cons_zero]
            repeat (go_big_quiet_step (fail))
            refine wpQuiet_nil ?_
            clear d1 hf f
            refine seg_op (by simp only [List.getElem?_toArray, List.getElem?_cons_succ, List.getElem?_cons_zero]; rfl) fun K hK => ?_
            go_simp
            refine (HC1.out).mono ?_
            rintro e w2 ⟨rfl, rfl⟩
            refine hK.out _ _ (seg_keep (show w1.drew.heap[wr.heap.size]? = _ from R1.out) ?_)
            clear hK K
            intro f hf
            refine wpQuiet_nil ?_
            clear hf f
            refine seg_op (by simp only [List.getElem?_toArray, List.getElem?_cons_succ, List.getElem?_cons_zero]; rfl) fun K hK => ?_
            go_simp
            refine (HC2.out).mono ?_
            rintro e w2 ⟨rfl, rfl⟩
            refine hK.out _ _ (seg_keep (show w1.drew.heap[wr.heap.size]? = _ from R1.out) ?_)
            clear hK K
            intro f hf
            simp only [pickI, Option.toList_some, List.cons_append, List.nil_append, List.getElem?_toArray, List.getElem?_cons_succ, List.getElem?_cons_zero]
            repeat (go_big_quiet_step (fail))
            refine wpQuiet_nil ?_
            clear hf f
            refine seg_op (by simp only [List.getElem?_toArray, List.getElem?_cons_succ, List.getElem?_cons_zero]; rfl) fun K hK => ?_
            go_simp
            refine (HLK.out).mono ?_
            rintro e w3' ⟨rfl, hT3, hb3'⟩
            have HT3 := Lib.hid (hT3.mono (show 200 * i ≤ 200 * (i + 1) by omega))
            refine hK.out _ _ (seg_keep (row_below (show w1.drew.heap[wr.heap.size]? = _ from R1.out) hb3') ?_)
            clear hT3 hb3'
            clear hK K
            intro f hf
            simp only [pickI, Option.toList_some, List.cons_append, List.nil_append, List.getElem?_toArray, List.getElem?_cons_succ, List.getElem?_cons_zero]
            repeat (go_big_quiet_step (fail))
            refine wpQuiet_nil ?_
            clear hf f
            go_wp2_with (fail)
            go_roundw
            case rel => exact ⟨i + 1, T, U, d, t, A', m, c', by omega, by go_num, rfl, rfl, HT3, HB, HDN⟩
            case measure => simp [intOf]; omega
          obtain ⟨d2, hd2⟩ : ∃ d2, d2 = (d.save (t.base + t.free * t.size) t.next x.text).1 := ⟨_, rfl⟩
          have hdn2 : d2.n = 20 := by rw [hd2, Dv.save_n]; exact HDN.out
          obtain ⟨E, hsave⟩ := HT.out.saved (X := fun j => wr.heap.size ≤ j ∧ j < w1.heap.size) (by have := HIN.out; omega) HB.out HBD1.out (fun j hj => hj) x.textA x.textn x.textc x.text (HRT.out.below (hbel.trans (HBD1.out.mono hbel.size))) ht3 (by omega) (by omega) hd2
          have HSV := Lib.hid hsave
          have HDN2 := Lib.hid hdn2
          have qE : (E == E) = true := by simp
          clear hTw hRtw hroom hts hnx hsave hd2 hdn2 HLK
          go_upto_region 23 with (fail)
          refine wp_segs [([0, 1, 2, 4, 5, 6], 3), ([], 7), ([8, 9, 10, 11], 12)] [13, 14] (fun z => z.heap[wr.heap.size]? = some (.cells #[.int .i64 x.kind, .slice x.textA x.textn x.textc, .int .i64 x.d.kd, .int .i64 x.d.x, .int .i64 x.d.n, .slice x.d.bA x.d.bn x.d.bc, .slice x.d.keepA x.d.keepn x.d.keepc] 43 (0, 0))) (by kernel_rfl) (by kernel_rfl) (fun d _ _ _ _ h => by cases d <;> exact h) R1.out ?_
          intro f hf
          have d1 : ∀ z, (f z).cell? ⟨wr.heap.size, 1, none⟩ = some (.slice x.textA x.textn x.textc) := fun z => cell_of_row (f z) _ 1 _ _ _ (hf z)
          simp only [pickI, Option.toList_some, List.cons_append, List.nil_append, List.getElem?_toArray, List.getElem?_cons_succ, List.getElem?_cons_zero]
          repeat (go_big_quiet_step (fail))
          refine wpQuiet_nil ?_
          clear d1 hf f
          refine seg_op (by simp only [List.getElem?_toArray, List.getElem?_cons_succ, List.getElem?_cons_zero]; rfl) fun K hK => ?_
          go_simp
          refine HSV.out.mono ?_
          rintro e w2 ⟨rfl, hk2, hc2⟩
          have HC2 := Lib.hid hc2
          have hr2 : w2.heap[wr.heap.size]? = some (.cells #[.int .i64 x.kind, .slice x.textA x.textn x.textc, .int .i64 x.d.kd, .int .i64 x.d.x, .int .i64 x.d.n, .slice x.d.bA x.d.bn x.d.bc, .slice x.d.keepA x.d.keepn x.d.keepc] 43 (0, 0)) := (off_row (W := w1.drew) hk2 (show wr.heap.size < w1.heap.size from HP1.out) (.inl ⟨Nat.le_refl _, HP1.out⟩)).trans (show w1.drew.heap[wr.heap.size]? = _ from R1.out)
          have HR2 := Lib.hid hr2
          have HL2 := Lib.hid (Nat.lt_of_lt_of_le (show wr.heap.size < w1.heap.size from HP1.out) hk2.size)
          refine hK.out _ _ (seg_keep hr2 ?_)
          clear hk2 hc2 hr2
          clear hK K
          intro f hf
          refine wpQuiet_nil ?_
          clear hf f
          refine seg_op (by simp only [List.getElem?_toArray, List.getElem?_cons_succ, List.getElem?_cons_zero]; rfl) fun K hK => ?_
          go_simp
          refine HC2.out.mono ?_
          rintro e w3' ⟨rfl, hk3, ⟨A2, m2, c2', hT2⟩, hB2⟩
          have hr3 : w3'.heap[wr.heap.size]? = some (.cells #[.int .i64 x.kind, .slice x.textA x.textn x.textc, .int .i64 x.d.kd, .int .i64 x.d.x, .int .i64 x.d.n, .slice x.d.bA x.d.bn x.d.bc, .slice x.d.keepA x.d.keepn x.d.keepc] 43 (0, 0)) := (off_row hk3 HL2.out (.inl ⟨Nat.le_refl _, HP1.out⟩)).trans HR2.out
          have HR3 := Lib.hid hr3
          have hts2 : 0 ≤ (t.after x.text E).size ∧ (t.after x.text E).size ≤ 65536 := by have h1 := hB2.s1; have h2 := hB2.b0; have h3 := hB2.inn; have h4 := HDN2.out; omega
          have HLK := Lib.hid (tp_like hT2 hB2.zero hB2.text hts2.1 hts2.2)
          have HB2 := Lib.hid hB2
          refine hK.out _ _ (seg_keep hr3 ?_)
          clear hk3 hr3 hts2 hT2 hB2
          clear hK K
          intro f hf
          simp only [pickI, Option.toList_some, List.cons_append, List.nil_append, List.getElem?_toArray, List.getElem?_cons_succ, List.getElem?_cons_zero]
          repeat (go_big_quiet_step (fail))
          refine wpQuiet_nil ?_
          clear hf f
          refine seg_op (by simp only [List.getElem?_toArray, List.getElem?_cons_succ, List.getElem?_cons_zero]; rfl) fun K hK => ?_
          go_simp
          refine (HLK.out).mono ?_
          rintro e w4 ⟨rfl, hT3, hb3'⟩
          have HT3 := Lib.hid (hT3.mono (show 200 * i + 160 ≤ 200 * (i + 1) by omega))
          refine hK.out _ _ (seg_keep (row_below HR3.out hb3') ?_)
          clear hT3 hb3'
          clear hK K
          intro f hf
          simp only [pickI, Option.toList_some, List.cons_append, List.nil_append, List.getElem?_toArray, List.getElem?_cons_succ, List.getElem?_cons_zero]
          repeat (go_big_quiet_step (fail))
          refine wpQuiet_nil ?_
          clear hf f
          go_wp2_with (fail)
          go_roundw
          case rel => exact ⟨i + 1, T, U, d2, _, A2, m2, c2', by omega, by go_num, rfl, rfl, HT3, HB2, HDN2⟩
          case measure => simp [intOf]; omega
        · have q0 : (kd == 0) = false := by simpa using h0
          by_cases h1 : kd = 1
          · subst h1
            clear h0
            have hdone := (HT.out.below HB1.out).done (by have := HIN.out; omega) HB.out x.opd (Opt.opd_reads HR.out) (by have := HFIT.out.2 x.opd (by simp); omega) (by have := HFIT.out.2 x.opd (by simp); omega)
            have HDONE := Lib.hid hdone
            have HDN' := Lib.hid ((Dv.op_n d x.opd).trans HDN.out)
            clear hdone
            go_wp2_with (fail)
            refine HDONE.out.mono ?_
            rintro e w2 ⟨rfl, hT2, hB2⟩
            have HT2 := Lib.hid (hT2.mono (show 200 * i + 64 ≤ 200 * (i + 1) by omega))
            have HB2 := Lib.hid hB2
            clear hT2 hB2 c0 c1 c2 c3 c4 c5 c6
            go_wp2_with (fail)
            go_roundw
            case rel => exact ⟨i + 1, T, U, _, t, A', m, c', by omega, by go_num, rfl, rfl, HT2, HB2, HDN'⟩
            case measure => simp [intOf]; omega
          · have q1 : (kd == 1) = false := by simpa using h1
            clear h0 h1
            obtain ⟨r, hmp, hsim, _⟩ := HT.out.mp (X := fun j => wr.heap.size ≤ j ∧ j < w1.heap.size) HB1.out (fun j hj => hj)
            have hlk : Rd w1 w.heap.size 1 x.d.keepA x.d.keepn x.d.keepc (x.d.keep.map (Value.int .i64)) := HRK.out.below (hbel.trans (HB1.out.mono hbel.size))
            have hkn : x.d.keepn ≤ 200 := (HFIT.out.2 x.opd (by simp)).2
            have hcr := dq_crash hmp.dq (by have := HIN.out; omega) x.d.keepA x.d.keepn x.d.keepc x.d.keep hlk (by omega)
            have HCR := Lib.hid hcr
            have HSIM := Lib.hid hsim
            have HKN := Lib.hid hkn
            clear hmp hcr hsim hlk hkn
            go_wp2_with (fail)
            refine HCR.out.mono ?_
            rintro e w2 ⟨rfl, hq2, hk2⟩
            have c6 := off_cell hk2 (.inl ⟨Nat.le_refl _, HP1.out⟩) c6
            have hbw2 : Below w.heap.size w w2 := by obtain ⟨_, _, _, _, _, _, _, h⟩ := hq2; exact h
            have hcr2 := dq_rcrash hq2 (by have := HIN.out; omega) x.d.keepA x.d.keepn x.d.keepc x.d.keep (HRK.out.below hbw2) (by have := HKN.out; omega)
            have HCR2 := Lib.hid hcr2
            clear hq2 hk2 hbw2 hcr2 c0 c1 c2 c3 c4 c5
            go_wp2_with (fail)
            refine HCR2.out.mono ?_
            rintro e w3' ⟨rfl, hq3, _⟩
            have hdp := hq3.dp (HSIM.out.crash x.d.keep)
            have hdn3 : (d.crash x.d.keep).n = 20 := (Dv.crash_n d x.d.keep).1.trans HDN.out
            have HOP := Lib.hid (dp_open hdp (by have := HIN.out; omega) base size HKB.out HKS.out (by rw [hdn3]; decide) (Dv.crash_n d x.d.keep).2 (by have := HIN.out; rw [hdn3]; exact ⟨this.1, this.2.1, this.2.2⟩))
            have HDN3 := Lib.hid hdn3
            clear hq3 hdp hdn3 c6
            go_wp2_with (fail)
            refine HOP.out.mono ?_
            rintro e w4 ⟨T2, U2, A2, m2, c2', rfl, hT2, _⟩
            have htb2 := tb_open (d := d.crash x.d.keep) base size.toNat (by have := HIN.out; omega) HIN.out.2.1 (by have := HIN.out; rw [HDN3.out]; omega) (by rw [HDN3.out]; decide)
            have HT2 := Lib.hid (hT2.mono (show 200 * i + 16 + 16 ≤ 200 * (i + 1) by omega))
            have HTB2 := Lib.hid htb2
            generalize openTv base size.toNat ((d.crash x.d.keep).bytes base (2 * size.toNat)) = t2 at *
            clear hT2 htb2
            go_wp2_with (fail)
            go_roundw
            case rel => exact ⟨i + 1, T2, U2, _, t2, A2, m2, c2', by omega, by go_num, rfl, rfl, HT2, HTB2, HDN3⟩
            case measure => simp [intOf]; omega
      · obtain rfl : i = n := by omega
        go_wp2_with (first
          | (go_at_call 6; refine (lives8 _).mono ?_; rintro e w9 ⟨rfl, hb9⟩)
          | fail)
        go_ret
        exact ⟨rfl, hbel.trans (hb9.mono hbel.size)⟩
  · have hno : ¬ ((Dv.new 20).down = false ∧ 1 ≤ size ∧ 0 ≤ base ∧ base + 2 * size ≤ (Dv.new 20).n) := fun h => hin ⟨h.2.1, h.2.2.1, h.2.2.2⟩
    have hno2 : ¬ (1 ≤ size ∧ 0 ≤ base ∧ base + 2 * size ≤ (Dv.new 20).n) := fun h => hin ⟨h.1, h.2.1, h.2.2⟩
    have hd0 : ¬ (Dv.new 20).down = true := by decide
    have HNO := Lib.hid hno
    have HNO2 := Lib.hid hno2
    have HD0 := Lib.hid hd0
    clear hin hno hno2 hd0
    go_enter Try.func3, Try.ntmps3
    go_wp2_with (first
      | (go_at_call 7; refine (new_good 20 _ (by omega) (by omega)).mono ?_; rintro e w3 ⟨F3, g, rfl, hD3, hb3⟩
         have HD3 := Lib.hid hD3
         have HB3 := Lib.hid hb3
         clear hD3 hb3)
      | (go_at_call 8; refine (rnew_good 20 _ (by omega) (by omega)).mono ?_; rintro e w4 ⟨rfl, hR4, hb4⟩
         have HP4 := Lib.hid (dp_new HD3.out HB3.out hR4 hb4)
         clear hR4 hb4 HD3 HB3)
      | fail)
    obtain ⟨q, hq⟩ : ∃ q, q = w3.heap.size := ⟨_, rfl⟩
    have hp4 := HP4.out
    rw [← hq] at hp4 ⊢
    refine (dp_refused hp4 (by omega) base size HKB.out HKS.out (by decide) HNO.out).mono ?_
    rintro e w5 ⟨rfl, hp5, hb5⟩
    clear hp4 HP4 hq hb5
    obtain ⟨F, hP5, hF5, hB5⟩ := hp5
    obtain ⟨r, hO, hR, hsim, hok⟩ := hP5.own
    have ho := twopen_all hO base size HKB.out HKS.out (by decide)
    have hr := fun (V : World) (hb : Below w5.heap.size w5 V) => rtopen_any hsim (hR.below hb) hok (by omega) base size HKB.out HKS.out (by decide)
    simp only [if_neg HD0.out, if_neg HNO2.out] at ho hr
    have HO := Lib.hid ho
    have HR := Lib.hid hr
    have HB5 := Lib.hid hB5
    clear ho hr hP5 hF5 hB5 hO hR hsim hok
    go_wp2_with (fail)
    refine HO.out.mono ?_
    rintro e w6 ⟨rfl, hb6⟩
    have HB6 := Lib.hid hb6
    clear hb6
    go_wp2_with (fail)
    refine (HR.out _ HB6.out).mono ?_
    rintro e w7 ⟨rfl, rfl⟩
    go_wp2_with (first
      | (go_at_call 6; refine (lives8 _).mono ?_; rintro e w9 ⟨rfl, hb9⟩)
      | fail)
    go_ret
    have hbw := HB5.out.trans (HB6.out.mono HB5.out.size)
    exact ⟨rfl, hbw.trans (hb9.mono hbw.size)⟩
theorem twinPlays_walk {w : World} {A : Option Addr} {n c : Nat} {os : List Opt} (h : Slc Opt.lay w A n c os) (base : Int) (hb : (Lit.int .i64 base).wf = true) (size : Int) (hs : (Lit.int .i64 size).wf = true) :
    Calls Try.prog 3 #[.slice A n c, .int .i64 base, .int .i64 size] w fun e w' => e = .returned (.bool true) ∧ Below w.heap.size w w' := by
  refine twinPlays_at h base size ?_ ?_
  · simp [Lit.wf, IntKind.min, IntKind.max, IntKind.signed, IntKind.bits] at hb
    unfold Key
    omega
  · simp [Lit.wf, IntKind.min, IntKind.max, IntKind.signed, IntKind.bits] at hs
    unfold Key
    omega
namespace twinPlays
open Go.ChangeShapes Go.WideShapes Go.ChangeAt
set_option maxRecDepth 100000 in
theorem lifted (os : Os) (started : os.Started) (H : Type) (enc : TypeId × Value → H) :
    ReturnsInHanded {} Try.checked os 3 .any (Rows.twinPlaysSpec.pre6 enc Try.prog Try.f3 Rows.twinPlaysRow.domain false) (Rows.twinPlaysSpec.post enc Try.prog Try.f3 false true false false) := by
  refine returnsInHanded_of_change (C := Try.checked) own started (by kernel_rfl) Try.func3
    (ChangeSpec.witness6 (enc := enc) (C := Try.checked) false ⟨#[], #[.slice none 0 0, .int .i64 0, .int .i64 0], []⟩ 8 (by kernel_rfl) (by kernel_rfl) (by kernel_rfl) (by kernel_rfl)) ?_
  intro W base args ds gs before hval0 hW _ _
  have hval : ∀ (j : Nat) t v, Try.f3.params[j]? = some t → args[j]? = some v → Value.okWide Try.prog W .any base t v := hval0
  have hW' := hW
  obtain ⟨p, q, hA0, hV, rfl, hfz, hnd⟩ := hW
  have hA : DataW.TrodAll enc Try.prog W 0 (fun _ => true) true Try.f3.params.toList args.toList ds p := hA0
  rw [Try.params3] at hA hval
  obtain ⟨v0, vs0, d0, ds0, p0, q0, hargs, rfl, rfl, h0, r0⟩ := trodAll_cons hA
  obtain ⟨v1, vs1, d1, ds1, p1, q1, rfl, rfl, rfl, h1, r1⟩ := trodAll_cons r0
  obtain ⟨v2, vs2, d2, ds2, p2, q2, rfl, rfl, rfl, h2, r2⟩ := trodAll_cons r1
  obtain ⟨rfl, rfl, rfl⟩ := trodAll_nil r2
  obtain rfl : args = #[v0, v1, v2] := by cases args; simp_all
  obtain ⟨rfl, rfl⟩ := trodVars_none hV
  have k0 := h0
  have lt0 : ∀ x ∈ p0, x.block < W.heap.size := by obtain ⟨m, hm⟩ := k0; exact DataW.trod_lt m _ _ _ hm
  obtain ⟨a0, n0, c0, l0, rfl, w0⟩ := Opt.dec (hval 0 22 v0 rfl rfl) h0
  have k1 := h1
  have lt1 : ∀ x ∈ p1, x.block < W.heap.size := by obtain ⟨m, hm⟩ := k1; exact DataW.trod_lt m _ _ _ hm
  obtain ⟨x1, rfl, w1⟩ := dec_int Try.underlying3 (hval 1 3 v1 rfl rfl) h1
  have k2 := h2
  have lt2 : ∀ x ∈ p2, x.block < W.heap.size := by obtain ⟨m, hm⟩ := k2; exact DataW.trod_lt m _ _ _ hm
  obtain ⟨x2, rfl, w2⟩ := dec_int Try.underlying3 (hval 2 3 v2 rfl rfl) h2
  clear hA0 hval0
  refine (twinPlays_walk w0 x1 w1 x2 w2).mono fun e W' ⟨he, bel⟩ => ?_
  subst he
  exact ⟨_, rfl, _, _, _, [], _, [], hW', trodAll_mk1 (shut_bool Try.underlying4 _), (trodAll_cons_mk (Below.trod laidOut (by kernel_rfl) (of_decide_eq_true (by kernel_rfl)) k0 bel lt0) (trodAll_cons_mk (Below.trod laidOut (by kernel_rfl) (of_decide_eq_true (by kernel_rfl)) k1 bel lt1) (trodAll_cons_mk (Below.trod laidOut (by kernel_rfl) (of_decide_eq_true (by kernel_rfl)) k2 bel lt2) trodAll_mk0))), rfl, bel.frame _, fun h => by cases h⟩

theorem over : Rows.twinPlaysRow.holds Try.pinned (OpenSpec.ofChange Rows.twinPlaysSpec) :=
  OpenClaim.holds_of_wide 3 Try.f3 rfl rfl rfl rfl rfl rfl rfl ⟨rfl, rfl, rfl, rfl, rfl⟩ rfl rfl rfl rfl rfl (by kernel_rfl) Try.func3 (by kernel_rfl)
    (of_decide_eq_true (by kernel_rfl)) (by unfold Func.isWrapper; first | (rw [if_pos (by decide +kernel)]; kernel_rfl) | (rw [if_neg (by decide +kernel)]; exact ⟨rfl, rfl⟩))
    (fun os started H enc _ => lifted os started H enc)
/-- The given statement. -/
theorem proved : Rows.TwinPlaysSaid := over
end twinPlays

end Go.Proofs.Ytddnjlnhnnpgiaa
