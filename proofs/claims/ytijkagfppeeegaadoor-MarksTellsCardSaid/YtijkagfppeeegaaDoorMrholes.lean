/- The contract of the reference's Holes. -/
import Derived.Test.YtijkagfppeeegaaDoorMrall
import Derived.Test.YtijkagfppeeegaaDoorMrtop
namespace Go.Proofs.YtijkagfppeeegaaDoor
open Go.RowKit

set_option maxHeartbeats 2000000 in
theorem rholes_any (L B : Nat) (w : World) (hL : L ≤ 4611686018427387840) (hB : B < 18446744073709551616) :
    Calls Tryd.prog 20 #[.agg #[.int .u64 (L : Int), .int .u64 (B : Int)]] w fun e w' => ∃ v, e = .returned v ∧ w'.ownsRow w.heap.size 22 1 v (picks (fun x => !Hs L B x) (L + 1) (top L B - (L + 1))).length (u64s (picks (fun x => !Hs L B x) (L + 1) (top L B - (L + 1)))) ∧ Below w.heap.size w w' := by
  have hA := fun W x (hx : x < 18446744073709551616) => rhas_any L B x W (by omega) hB hx
  have hT := fun W => rtop_any L B W hL hB
  have ht64 : top L B ≤ L + 64 := by unfold top; have := bl_le B hB; omega
  obtain ⟨W, hW, hWs, r0, hwW⟩ := boxes1 w #[.int .u64 (L : Int), .int .u64 (B : Int)] 25
  have HLow := Lib.hid hL
  obtain ⟨p, hp⟩ : ∃ p, p = picks (fun x => !Hs L B x) (L + 1) := ⟨_, rfl⟩
  rw [← hp]
  have HP := Lib.hid hp
  generalize top L B = tp at *
  have HT64 := Lib.hid ht64
  clear hL hB hp ht64
  go_enter Tryd.func20, Tryd.ntmps20
  go_upto_block 0 with (fail)
  rw [← hW]
  clear hW
  have E0 : Hid (IntKind.u64.wrap ((L : Int) + 1) = (L : Int) + 1) := Lib.hid (u64w _ (by omega) (by have := HLow.out; omega))
  have HWs := Lib.hid hWs
  have hlt0 : w.heap.size < W.heap.size := by omega
  clear hWs
  have k0 := cell_of_row W _ 0 _ _ _ r0
  simp at k0
  go_wp2_with fail
  clear k0
  go_loopw [3, 4] (fun vr kr wr => ∃ j : Nat, j ≤ tp - (L + 1) ∧ kr = .int .u64 ((L : Int) + 1 + (j : Int)) ∧ Hid (wr.ownsRow W.heap.size 22 1 vr (p j).length (u64s (p j))) ∧ Hid (Below W.heap.size W wr)) (fun _ kr _ => tp + 1 - (intOf kr).toNat)
  case atStart => exact ⟨0, by omega, by first | (rw [E0.out]; go_num) | go_num, Lib.hid (by rw [HP.out]; exact World.ownsRow_nil _ _ _ _), Lib.hid (Below.refl _ _)⟩
  case round =>
    obtain ⟨j, hj, rfl, HO, HBl⟩ := hrel
    have hbl := HBl.out
    have k0 := cellz (j := 0) (u := .int .u64 (L : Int)) hbl r0 rfl
    have k1 := cellz (j := 1) (u := .int .u64 (B : Int)) hbl r0 rfl
    have hsz := hbl.size
    have hsz1 : w.heap.size < wr.heap.size := by omega
    clear hbl
    by_cases hlt : j < tp - (L + 1)
    · have hl := HLow.out
      have ht := HT64.out
      have hA' := fun W => hA W (L + 1 + j) (by omega)
      have d1 : decide ((L : Int) + 1 + (j : Int) < (tp : Int)) = true := by simp; omega
      have e2 : IntKind.u64.wrap ((L : Int) + 1 + (j : Int) + 1) = (L : Int) + 1 + (j : Int) + 1 := u64w _ (by omega) (by omega)
      have HLT := Lib.hid hlt
      have hpl : (p j).length ≤ 64 := by rw [HP.out]; have := picks_len (fun x => !Hs L B x) (L + 1) j; omega
      clear hl hlt ht hj
      obtain ⟨u, hu⟩ : ∃ u, Hs L B (L + 1 + j) = u := ⟨_, rfl⟩
      rw [hu] at hA'
      have HU := Lib.hid hu
      clear hu
      have hxx : ((L + 1 + j : Nat) : Int) = (L : Int) + 1 + (j : Int) := by omega
      rw [hxx] at hA'
      cases u
      · go_wp2_with (first
          | (go_at_call 15; (with_reducible refine (hT _).mono ?_); rintro e wt ⟨rfl, hbt⟩
             have k0 := kept hbt k0 hsz1
             have k1 := kept hbt k1 hsz1
             have hot := Lib.hid (HO.out.kept (grow_below hbt) (Classical.em _))
             have hzt := Lib.hid (HBl.out.trans (hbt.mono HBl.out.size))
             have hst : w.heap.size < wt.heap.size := Nat.lt_of_lt_of_le hsz1 hbt.size)
          | (go_at_call 10; (with_reducible refine (hA' _).mono ?_); rintro e w3 ⟨rfl, hb3⟩
             have ho3 := Lib.hid (hot.out.kept (grow_below hb3) (Classical.em _))
             have hz3 := Lib.hid (hzt.out.trans (hb3.mono hzt.out.size))
             have hs3 := hz3.out.size)
          | (at_builtin; refine wpL_app rfl _ _ _ _ rfl Elem64 rfl rfl (ho3.out.alloc _) (Src.lit Tryd.underlying36 _ rfl (by intro u hu; simp at hu; subst hu; rfl)) (by unfold maxLen; omega) (by omega) (by simp; omega) ?_; intro v2 w2 hown2 hg2 hat2))
        go_roundw
        case rel =>
          refine ⟨j + 1, by have := HLT.out; omega, by go_num, Lib.hid ?_, Lib.hid ((hz3.out.alloc hs3 _).grown hg2 (by simp; omega) (fun k e => (ho3.out.lt k e).1))⟩
          rw [show p (j + 1) = p j ++ [L + 1 + j] by rw [HP.out]; exact picks_yes (by simp only [HU.out]; rfl), u64s_snoc, List.length_append, hxx]
          exact hown2
        case measure => have := HLT.out; simp [intOf]; omega
      · go_wp2_with (first
          | (go_at_call 15; (with_reducible refine (hT _).mono ?_); rintro e wt ⟨rfl, hbt⟩
             have k0 := kept hbt k0 hsz1
             have k1 := kept hbt k1 hsz1
             have hot := Lib.hid (HO.out.kept (grow_below hbt) (Classical.em _))
             have hzt := Lib.hid (HBl.out.trans (hbt.mono HBl.out.size)))
          | (go_at_call 10; (with_reducible refine (hA' _).mono ?_); rintro e w3 ⟨rfl, hb3⟩
             have ho3 := Lib.hid (hot.out.kept (grow_below hb3) (Classical.em _))))
        go_roundw
        case rel => exact ⟨j + 1, by have := HLT.out; omega, by go_num, (by rw [show p (j + 1) = p j by rw [HP.out]; exact picks_no (by simp only [HU.out]; rfl)]; exact ho3), Lib.hid (hzt.out.trans (hb3.mono hzt.out.size))⟩
        case measure => have := HLT.out; simp [intOf]; omega
    · have d1 : decide ((L : Int) + 1 + (j : Int) < (tp : Int)) = false := by simp; omega
      have hjj : j = tp - (L + 1) := by omega
      have HJ := Lib.hid hjj
      have hl := hwW.size
      clear hlt hj hjj
      go_wp2_with (go_at_call 15; (with_reducible refine (hT _).mono ?_); rintro e wt ⟨rfl, hbt⟩; have hot := Lib.hid (HO.out.kept (grow_below hbt) (Classical.em _)))
      go_ret
      exact ⟨_, rfl, by rw [← HJ.out]; exact own_mono hot.out hl, hwW.trans ((HBl.out.trans (hbt.mono HBl.out.size)).mono hwW.size)⟩

end Go.Proofs.YtijkagfppeeegaaDoor
