/- Contracts of package alloc: Clone. -/
import Derived.Test.YtljmigfjlndpbaaDoorAnew
namespace Go.Proofs.YtljmigfjlndpbaaDoor
open Go.RowKit

section
variable {w w' : World} {g R k : Nat} {a : Av}
def Cloned (w : World) (k : Nat) (a : Av) (e : Ending) (w' : World) : Prop := ∃ g' R' b, e = .returned (.pointer (some ⟨g', 0, none⟩)) ∧ Alw w' g' R' k b ∧ b.n = a.n ∧ b.ws = a.ws ∧ Below w.heap.size w w' ∧ w.heap.size ≤ g' ∧ w.heap.size ≤ R'
set_option maxHeartbeats 1000000 in
theorem aclone_any (h : Alw w g R k a) (hk : 0 < k) : Calls Tryd.prog 18 #[.pointer (some ⟨g, 0, none⟩)] w (Cloned w k a) := by
  have c0 := h.c0
  have c1 := h.c1
  have hg := h.lt.1
  have HC := Lib.hid (fun (W : World) (hb : Below w.heap.size w W) => rowsClone_any (h.below hb) hk)
  have HO := Lib.hid h.ok
  have HP := Lib.hid (show 0 < w.heap.size by have := h.lt; omega)
  clear h hk
  go_enter Tryd.func18, Tryd.ntmps18
  go_wp2_with (fail)
  refine wp_low w.heap.size [([0, 1, 2, 3, 4, 5, 6, 7], 8), ([9], 10)] [11] (by kernel_rfl) (by kernel_rfl) (fun d _ _ _ _ h => by cases d <;> exact h) (Nat.le_refl _) fun wd hbd => ?_
  intro f hf
  have m0 := fun z => ((hf z).cell (p := ⟨g, 0, none⟩) hg).trans c0
  have m1 := fun z => ((hf z).cell (p := ⟨g, 1, none⟩) hg).trans c1
  simp only [pickI, Option.toList_some, List.cons_append, List.nil_append, List.getElem?_toArray, List.getElem?_cons_succ, List.getElem?_cons_zero]
  repeat (go_big_quiet_step (fail))
  refine wpQuiet_nil ?_
  clear m0 m1 hf f
  refine seg_op (by simp only [List.getElem?_toArray, List.getElem?_cons_succ, List.getElem?_cons_zero]; rfl) fun K hK => ?_
  go_simp
  refine (HC.out _ hbd).mono ?_
  rintro e w1 ⟨R1, c, tl, rfl, hr1, hR1, hc, hb1⟩
  have z1 := hbd.trans (hb1.mono hbd.size)
  have HR1 := Lib.hid (show w.heap.size ≤ R1 by have := hR1.out; have := hbd.size; omega)
  refine hK.out _ _ (seg_keep z1 ?_)
  clear hK K
  intro f hf
  simp only [pickI, Option.toList_some, List.cons_append, List.nil_append, List.getElem?_toArray, List.getElem?_cons_succ, List.getElem?_cons_zero]
  repeat (go_big_quiet_step (fail))
  refine wpQuiet_nil ?_
  clear hf f
  refine seg_op (by simp only [List.getElem?_toArray, List.getElem?_cons_succ, List.getElem?_cons_zero]; rfl) fun K hK => ?_
  go_simp
  obtain ⟨W, hW, hz, hr0, hbW⟩ := boxes1 w1 #[.int .i64 (a.n : Int), .slice (some ⟨R1, 0, none⟩) k c] 52
  rw [← hW]
  have z2 := z1.trans (hbW.mono z1.size)
  have hrW := (hbW.block _ (Array.getElem?_eq_some_iff.1 hr1).1).trans hr1
  have hlt1 := (Array.getElem?_eq_some_iff.1 hr1).1
  have hs1 := z1.size
  have HA : Hid (Alw W w1.heap.size R1 k ⟨a.n, a.ws, c, tl⟩) := by
    have o := HO.out
    have := HP.out
    have := HR1.out
    exact Lib.hid ⟨hr0, hrW, by omega, ⟨o.len, o.room, o.small, hc.out, o.lt, o.out⟩, by omega⟩
  have HS := Lib.hid hs1
  have HZ := Lib.hid z2
  clear hW hz hr0 hbW hrW hlt1 hs1
  refine hK.out _ _ (seg_keep z2 ?_)
  clear hK K
  intro f hf
  simp only [pickI, Option.toList_some, List.cons_append, List.nil_append, List.getElem?_toArray, List.getElem?_cons_succ, List.getElem?_cons_zero]
  repeat (go_big_quiet_step (fail))
  refine wpQuiet_nil ?_
  clear hf f
  go_wp2
  go_ret
  exact ⟨_, _, _, rfl, HA.out, rfl, rfl, HZ.out, HS.out, HR1.out⟩
end
end Go.Proofs.YtljmigfjlndpbaaDoor
