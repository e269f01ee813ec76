/- firsts: a map of the first entry of each index that counts. -/
import Derived.Test.YtgejmeankppmhaaDoorOfirstM
namespace Go.Proofs.YtgejmeankppmhaaDoor
open Go.RowKit
open Bh (En Ents ens ens_get ecell)
set_option maxRecDepth 20000

abbrev MapO (w : World) (es : List En) (b n : Nat) (f : SaysE) : Prop := MapE Tryd.prog 23 Ez.cells (es.map En.cells) w b n f
/-- What firsts tells. -/
def TFst (w : World) (es : List En) (f : SaysE) (e : Ending) (w' : World) : Prop := ∃ n, n ≤ es.length ∧ ∃ b, e = .returned (.map (some b)) ∧ w.heap.size ≤ b ∧ MapO w' es b n f ∧ Below w.heap.size w w'
theorem MapO.below {w w' : World} {es : List En} {b n : Nat} {f : SaysE} (h : MapO w es b n f) (hb : Below w.heap.size w w') : MapO w' es b n f := MapE.same h (hb.block b (MapE.lt h))
set_option maxHeartbeats 8000000 in
theorem firsts_any {w : World} {A : Option Addr} {n c : Nat} {es : List En} (h : Ents w A n c es) (cnt : Nat → Bool) (p q : Nat)
    (hc : ∀ W, Below w.heap.size w W → ∀ x : Nat, x < 18446744073709551616 → Calls Tryd.prog 36 #[.int .u64 (x : Int), .pointer (some ⟨p, 0, none⟩), .pointer (some ⟨q, 0, none⟩)] W fun e w' => e = .returned (.bool (cnt x)) ∧ Below W.heap.size W w') :
    Calls Tryd.prog 35 #[.slice A n c, .func (.func 36) #[] #[.pointer (some ⟨p, 0, none⟩), .pointer (some ⟨q, 0, none⟩)]] w (TFst w es (fstE cnt es)) := by
  have hcap := h.rd.2.1
  have hnc := h.rd.1
  have hnm : (n : Int) ≤ 9223372036854775807 := by unfold maxLen at hcap; omega
  have hnm2 : n < maxLen ∨ n = maxLen := by omega
  have HH := Lib.hid h
  have HCA := Lib.hid hcap
  have HC := Lib.hid hc
  clear h hcap hc hnm2
  have hmm := @run_makeMap Tryd.prog
  go_enter Tryd.func35, Tryd.ntmps35
  go_wp2
  have HM0 := Lib.hid (show MapO (w.alloc (.map #[] 0)) es w.heap.size 0 (fstE cnt (es.take 0)) from by rw [List.take_zero, fstE_nil]; exact mapE_made w)
  have HB0 := Lib.hid ((Below.refl w.heap.size w).alloc (Nat.le_refl _) (.map #[] 0))
  generalize w.alloc (.map #[] 0) = W at *
  obtain ⟨bm, hbm⟩ : ∃ bm, w.heap.size = bm := ⟨_, rfl⟩
  rw [hbm] at HM0 ⊢
  have hbl : w.heap.size ≤ bm := Nat.le_of_eq hbm
  clear hbm hmm
  go_loopw [13] (fun ir wr => ∃ (i : Nat), i ≤ n ∧ ir = .int .i64 (i : Int) ∧ Hid (∃ m, m ≤ i ∧ MapO wr es bm m (fstE cnt (es.take i))) ∧ Hid (Below w.heap.size w wr)) (fun ir _ => n - (intOf ir).toNat)
  case atStart => exact ⟨0, Nat.zero_le _, rfl, Lib.hid ⟨0, Nat.le_refl _, HM0.out⟩, HB0⟩
  case round =>
    obtain ⟨i, hi, rfl, HM, HB⟩ := hrel
    by_cases hlt : i < n
    · obtain ⟨p0, hp⟩ : ∃ p0, es[i]? = some p0 := ⟨_, List.getElem?_eq_getElem (by have := HH.out.len; omega)⟩
      obtain ⟨b, o, rfl, hbb, hcc⟩ := HH.out.rd.2.2.2 (by omega)
      have hr := HH.out.reads p0 (List.mem_of_getElem? hp)
      have hce := fun j u (hu : p0.cells[j]? = some u) => (HB.out.cell (p := ⟨b, o + (i * 10 + j), none⟩) hbb).trans (hcc _ _ (ens_get es i _ hp j u hu))
      have HP := Lib.hid hp
      have hix := hr.ix
      have HAG := Lib.hid (fun h => fstE_again (cnt := cnt) hp h)
      have HPU := Lib.hid (fun h1 h2 => fstE_put (cnt := cnt) hp h1 h2)
      have HCX := Lib.hid (fun W hb => HC.out W hb p0.ix hix)
      have HJ := Lib.hid (show ∃ j : Nat, (es.map En.cells)[j]? = some p0.cells from ⟨i, by rw [List.getElem?_map, hp]; rfl⟩)
      obtain ⟨m, hm, hmo⟩ := HM.out
      have hlk : ∀ cs : Obj, (Instr.lookup 85 (.map (some bm)) (.int .u64 (p0.ix : Int)) true).run Tryd.prog (wr.alloc cs) = .ok (.tuple #[.agg ((fstE cnt (es.take i) p0.ix).getD Ez.cells), .bool (fstE cnt (es.take i) p0.ix).isSome]) (wr.alloc cs) := fun cs => MapE.lookOk (t := 85) (e := 43) Tryd.underlying23 Tryd.underlying85 (MapO.below hmo ((Below.refl _ _).alloc (Nat.le_refl _) cs)) (ez_zero _) p0.ix hix
      have HMO := Lib.hid hmo
      have HME := Lib.hid (fun e (he : fstE cnt (es.take i) p0.ix = some e) => fstE_of he)
      clear hmo HM hp hr hcc HC
      obtain ⟨F, hF⟩ : ∃ F, fstE cnt (es.take i) = F := ⟨_, rfl⟩
      obtain ⟨F2, hF2⟩ : ∃ F2, fstE cnt (es.take (i + 1)) = F2 := ⟨_, rfl⟩
      rw [hF] at HAG HPU HMO HME hlk
      rw [hF2] at HAG HPU
      have HF2 := Lib.hid hF2
      clear hF2 hF
      have HBA := Lib.hid (fun c1 c2 : Obj => (HB.out.alloc HB.out.size c1).alloc (by have := HB.out.size; simp; omega) c2)
      have hXb : ∀ c1 c2 : Obj, Below wr.heap.size wr ((wr.alloc c1).alloc c2) := fun c1 c2 => ((Below.refl _ _).alloc (Nat.le_refl _) c1).alloc (by simp) c2
      have HXB := Lib.hid hXb
      have HX1 := Lib.hid (fun c1 c2 : Obj => (show ((wr.alloc c1).alloc c2).heap[wr.heap.size]? = some c1 from row_below (heap_alloc_new wr c1) ((Below.refl _ _).alloc (Nat.le_refl _) c2)))
      have HLT := Lib.hid (And.intro hm (And.intro hlt HCA.out))
      have HNC := Lib.hid hnc
      have hlti : (i : Int) < (n : Int) := by omega
      have hin : (i : Int) ≤ 9223372036854775806 := by omega
      have HIX := Lib.hid hix
      clear hXb hm hnc
      cases hfx : F p0.ix with
      | some cs =>
        obtain ⟨e1, he1, hix1, rfl⟩ := HME.out cs hfx
        rw [hfx] at hlk
        simp only [Option.getD_some, Option.isSome_some] at hlk
        have HE := Lib.hid (HAG.out (.inl (by rw [hfx]; rfl)))
        clear hfx HAG HPU HME HCX HJ hix1 he1
        obtain ⟨ix, tm, st, kd, cl, rq, fr, ct, da, A1, bn, bc, ls⟩ := p0
        obtain ⟨ix', tm', st', kd', cl', rq', fr', ct', da', A1', bn', bc', ls'⟩ := e1
        unfold En.cells at hce hlk
        dsimp only at hce hlk hix
        have k0 := hce 0 _ rfl
        have k1 := hce 1 _ rfl
        have k2 := hce 2 _ rfl
        have k3 := hce 3 _ rfl
        have k4 := hce 4 _ rfl
        have k5 := hce 5 _ rfl
        have k6 := hce 6 _ rfl
        have k7 := hce 7 _ rfl
        have k8 := hce 8 _ rfl
        have k9 := hce 9 _ rfl
        try dsimp only at k0 k1 k2 k3 k4 k5 k6 k7 k8 k9
        simp only [← Nat.add_assoc, Nat.add_zero] at k0 k1 k2 k3 k4 k5 k6 k7 k8 k9
        clear hce
        go_wp2_with (first
          | (refine wpL_look rfl _ (.tmp 18) (.tmp 20) true rfl rfl rfl (hlk _) ?_)
          | fail)
        go_roundw
        case rel => exact ⟨i + 1, by omega, by go_num, Lib.hid ⟨m, by have := HLT.out.1; omega, by rw [HF2.out, HE.out]; exact MapO.below HMO.out (HXB.out _ _)⟩, Lib.hid (HBA.out _ _)⟩
        case measure => simp [intOf]; omega
      | none =>
        rw [hfx] at hlk
        simp only [Option.getD_none, Option.isSome_none] at hlk
        have HPU2 := Lib.hid (HPU.out hfx)
        have HAG2 := Lib.hid (fun h => HAG.out (.inr h))
        have hcq : ∃ bq, cnt p0.ix = bq := ⟨_, rfl⟩
        obtain ⟨bq, hbq⟩ := hcq
        rw [hbq] at HCX HPU2 HAG2
        clear hfx HAG HPU HME hbq
        have HCE := Lib.hid (show p0.cells = p0.cells from rfl)
        obtain ⟨ix, tm, st, kd, cl, rq, fr, ct, da, A1, bn, bc, ls⟩ := p0
        unfold En.cells at hce hlk
        dsimp only at hce hlk hix HCX
        unfold Ez at hlk
        dsimp only at hlk
        have k0 := hce 0 _ rfl
        have k1 := hce 1 _ rfl
        have k2 := hce 2 _ rfl
        have k3 := hce 3 _ rfl
        have k4 := hce 4 _ rfl
        have k5 := hce 5 _ rfl
        have k6 := hce 6 _ rfl
        have k7 := hce 7 _ rfl
        have k8 := hce 8 _ rfl
        have k9 := hce 9 _ rfl
        try dsimp only at k0 k1 k2 k3 k4 k5 k6 k7 k8 k9
        simp only [← Nat.add_assoc, Nat.add_zero] at k0 k1 k2 k3 k4 k5 k6 k7 k8 k9
        clear hce
        cases bq
        · have HE := Lib.hid (HAG2.out rfl)
          go_wp2_with (first
            | (refine wpL_look rfl _ (.tmp 18) (.tmp 20) true rfl rfl rfl (hlk _) ?_)
            | (go_at_call 36; refine (HCX.out _ (HBA.out _ _)).mono ?_; rintro e w1 ⟨rfl, hb1⟩)
            | fail)
          go_roundw
          case rel => exact ⟨i + 1, by omega, by go_num, Lib.hid ⟨m, by have := HLT.out.1; omega, by rw [HF2.out, HE.out]; exact MapO.below (MapO.below HMO.out (HXB.out _ _)) hb1⟩, Lib.hid ((HBA.out _ _).trans (hb1.mono (HBA.out _ _).size))⟩
          case measure => simp [intOf]; omega
        · have HE := Lib.hid (HPU2.out rfl)
          go_wp2_with (first
            | (refine wpL_look rfl _ (.tmp 18) (.tmp 20) true rfl rfl rfl (hlk _) ?_)
            | (go_at_call 36; refine (HCX.out _ (HBA.out _ _)).mono ?_; rintro e w1 ⟨rfl, hb1⟩
               have hrow := row_below (HX1.out (.cells #[.int .u64 (ix : Int), .int .u64 (tm : Int), .int .u64 (st : Int), .int .i64 kd, .int .u64 (cl : Int), .int .u64 (rq : Int), .int .u32 (fr : Int), .int .u32 (ct : Int), .string (str da), .slice A1 bn bc] 43) _) hb1
               have e0 := cell_of_row w1 _ 0 _ _ _ hrow
               have e1 := cell_of_row w1 _ 1 _ _ _ hrow
               have e2 := cell_of_row w1 _ 2 _ _ _ hrow
               have e3 := cell_of_row w1 _ 3 _ _ _ hrow
               have e4 := cell_of_row w1 _ 4 _ _ _ hrow
               have e5 := cell_of_row w1 _ 5 _ _ _ hrow
               have e6 := cell_of_row w1 _ 6 _ _ _ hrow
               have e7 := cell_of_row w1 _ 7 _ _ _ hrow
               have e8 := cell_of_row w1 _ 8 _ _ _ hrow
               have e9 := cell_of_row w1 _ 9 _ _ _ hrow
               have hm1 := MapO.below (MapO.below HMO.out (HXB.out _ _)) hb1
               obtain ⟨w5, hup, hmu, hgu, hzu⟩ := MapE.put (t := 85) (e := 43) Tryd.underlying23 Tryd.underlying85 hm1 (by have := HLT.out; have := HNC.out; omega) ix HIX.out _ HJ.out
               have HB1 := Lib.hid ((HBA.out _ _).trans (hb1.mono (HBA.out _ _).size))
               have HMU := Lib.hid hmu
               have HGU := Lib.hid hgu
               unfold En.cells at hup
               dsimp only at hup
               clear hm1 hmu hgu hzu hrow)
            | (refine wp_upd _ (.tmp 32) (.tmp 34) (.tmp 35) rfl rfl rfl rfl hup ?_)
            | (refine wpL_upd rfl _ (.tmp 32) (.tmp 34) (.tmp 35) rfl rfl rfl rfl hup ?_)
            | fail)
          go_roundw
          case rel => exact ⟨i + 1, by omega, by go_num, Lib.hid ⟨m + 1, by have := HLT.out.1; omega, by rw [HF2.out, HE.out]; exact HMU.out⟩, Lib.hid (HB1.out.grown HGU.out HB1.out.size (fun k e => by have := Option.some.inj e; omega))⟩
          case measure => simp [intOf]; omega
    · obtain rfl : i = n := by omega
      go_wp2
      go_ret
      obtain ⟨m, hm, hmo⟩ := HM.out
      refine ⟨m, by have := HH.out.len; omega, bm, rfl, hbl, ?_, HB.out⟩
      rwa [List.take_of_length_le (by have := HH.out.len; omega)] at hmo
end Go.Proofs.YtgejmeankppmhaaDoor
