/- Two lists of entries that are the same, as the reference asks it. -/
import Derived.Test.YtoopeppcmoolgaaMsame
namespace Go.Proofs.Ytoopeppcmoolgaa
open Go.RowKit
set_option maxRecDepth 20000

structure SameE (e x : En) : Prop where
  al : e.alike x = true
  ix : e.ix = x.ix
  tm : e.tm = x.tm
  st : e.st = x.st
  ls : e.ls = x.ls
set_option maxHeartbeats 4000000 in
theorem sames_any {w : World} {A1 A2 : Option Addr} {c1 c2 H : Nat} {es1 es2 : List En} (h1 : Ents w A1 H c1 es1) (h2 : Ents w A2 H c2 es2) (hs : ∀ (j : Nat) (e x : En), es1[j]? = some e → es2[j]? = some x → SameE e x) :
    Calls Try.prog 15 #[.slice A1 H c1, .slice A2 H c2] w fun r w' => r = .returned (.bool true) ∧ Below w.heap.size w w' := by
  have hcap := h1.rd.2.1
  have hnc := h1.rd.1
  have hnm : (H : Int) ≤ 9223372036854775807 := by unfold maxLen at hcap; omega
  have HE1 := Lib.hid h1
  have HE2 := Lib.hid h2
  have HS := Lib.hid hs
  clear h1 h2 hs hcap hnc
  go_enter Try.func15, Try.ntmps15
  go_wp2
  go_loopw [5] (fun ir wr => ∃ (i : Nat), i ≤ H ∧ ir = .int .i64 (i : Int) ∧ Hid (Below w.heap.size w wr)) (fun ir _ => H - (intOf ir).toNat)
  case atStart => exact ⟨0, Nat.zero_le _, rfl, Lib.hid (Below.refl _ _)⟩
  case round =>
    obtain ⟨i, hi, rfl, HBW⟩ := hrel
    by_cases hlt : i < H
    · obtain ⟨e, he⟩ : ∃ e, es1[i]? = some e := ⟨_, List.getElem?_eq_getElem (by have := HE1.out.len; omega)⟩
      obtain ⟨x, hx⟩ : ∃ x, es2[i]? = some x := ⟨_, List.getElem?_eq_getElem (by have := HE2.out.len; omega)⟩
      obtain ⟨b6, o6, hA6, _⟩ := HE1.out.rd.2.2.2 (by omega)
      obtain ⟨b7, o7, hA7, _⟩ := HE2.out.rd.2.2.2 (by omega)
      subst hA6 hA7
      have hlti : (i : Int) < (H : Int) := by omega
      have hse := HS.out i e x he hx
      have HL1 := Lib.hid (fun W' (hb' : Below wr.heap.size wr W') => ents_loads ((HE1.out.below HBW.out).below hb') he)
      have HL2 := Lib.hid (fun W' (hb' : Below wr.heap.size wr W') => ents_loads ((HE2.out.below HBW.out).below hb') hx)
      have HSM := Lib.hid (fun W' (hb' : Below wr.heap.size wr W') => same_any e x W' (((HE1.out.reads e (List.mem_of_getElem? he)).below HBW.out).below hb') (((HE2.out.reads x (List.mem_of_getElem? hx)).below HBW.out).below hb') hse.al hse.ix hse.tm hse.st hse.ls)
      clear he hx hse
      go_wp2_with (fail)
      refine wp_low wr.heap.size [([0, 1, 2, 3, 4, 5, 6, 7], 8)] [9] (by kernel_rfl) (by kernel_rfl) (fun d _ _ _ _ h => by cases d <;> exact h) (Nat.le_refl _) fun wd hbd => ?_
      intro q hq
      simp only [pickI, Option.toList_some, List.cons_append, List.nil_append, List.getElem?_toArray, List.getElem?_cons_succ, List.getElem?_cons_zero]
      try go_frame
      go_big_quiet_step (fail)
      go_big_quiet_step (fail)
      go_big_quiet_step (fail)
      refine wpQ_load rfl _ (.tmp 19) rfl rfl (fun w hw => by obtain ⟨z, rfl⟩ := hw; exact HL1.out _ (hq z)) ?_
      try go_frame
      go_big_quiet_step (fail)
      go_big_quiet_step (fail)
      go_big_quiet_step (fail)
      refine wpQ_load rfl _ (.tmp 23) rfl rfl (fun w hw => by obtain ⟨z, rfl⟩ := hw; exact HL2.out _ (hq z)) ?_
      try go_frame
      refine wpQuiet_nil ?_
      clear hq q
      refine seg_op (by simp only [List.getElem?_toArray, List.getElem?_cons_succ, List.getElem?_cons_zero]; rfl) fun K hK => ?_
      go_simp
      refine (HSM.out _ hbd).mono ?_
      rintro e v0 ⟨rfl, bv0⟩
      have zv0 := hbd.trans (bv0.mono hbd.size)
      refine hK.out _ _ (seg_keep zv0 ?_)
      clear hK K
      intro q hq
      simp only [pickI, Option.toList_some, List.cons_append, List.nil_append, List.getElem?_toArray, List.getElem?_cons_succ, List.getElem?_cons_zero]
      try go_frame
      go_big_quiet_step (fail)
      refine wpQuiet_nil ?_
      clear hq q
      go_wp2
      go_roundw
      case rel => exact ⟨i + 1, by omega, by go_num, Lib.hid (HBW.out.trans (zv0.mono HBW.out.size))⟩
      case measure => simp [intOf]; omega
    · obtain rfl : i = H := by omega
      go_wp2
      go_ret
      exact ⟨rfl, HBW.out⟩
end Go.Proofs.Ytoopeppcmoolgaa
