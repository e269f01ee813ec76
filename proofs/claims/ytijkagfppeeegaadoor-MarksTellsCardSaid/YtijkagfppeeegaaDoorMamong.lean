/- Contracts of marks.among for the two closures, and of All and Holes. -/
import Derived.Test.YtijkagfppeeegaaDoorMrall
namespace Go.Proofs.YtijkagfppeeegaaDoor
open Go.RowKit

theorem all1_any (L B n g : Nat) (w : World) (hL : L < 18446744073709551616) (hB : B < 18446744073709551616) (hn : n < 18446744073709551616) (hr : w.heap[g]? = some (.cells #[.int .u64 (L : Int), .int .u64 (B : Int)] 24 (0, 0))) :
    Calls Tryd.prog 31 #[.int .u64 (n : Int), .pointer (some ⟨g, 0, none⟩)] w fun e w' => e = .returned (.bool (Hs L B n)) ∧ Below w.heap.size w w' := by
  have hh := fun W => has_any L B n W hL hB hn
  have k0 := cell_of_row w _ 0 _ _ _ hr
  have k1 := cell_of_row w _ 1 _ _ _ hr
  simp at k0 k1
  clear hL hB hn
  go_enter Tryd.func31, Tryd.ntmps31
  go_wp2_with fail
  refine (hh _).mono ?_
  rintro e w1 ⟨rfl, hb1⟩
  go_wp2
  go_ret
  exact ⟨rfl, hb1⟩
theorem holes1_any (L B n g : Nat) (w : World) (hL : L < 18446744073709551616) (hB : B < 18446744073709551616) (hn : n < 18446744073709551616) (hr : w.heap[g]? = some (.cells #[.int .u64 (L : Int), .int .u64 (B : Int)] 24 (0, 0))) :
    Calls Tryd.prog 32 #[.int .u64 (n : Int), .pointer (some ⟨g, 0, none⟩)] w fun e w' => e = .returned (.bool (!Hs L B n)) ∧ Below w.heap.size w w' := by
  have hh := fun W => has_any L B n W hL hB hn
  have k0 := cell_of_row w _ 0 _ _ _ hr
  have k1 := cell_of_row w _ 1 _ _ _ hr
  simp at k0 k1
  clear hL hB hn
  go_enter Tryd.func32, Tryd.ntmps32
  go_wp2_with fail
  refine (hh _).mono ?_
  rintro e w1 ⟨rfl, hb1⟩
  go_wp2
  go_ret
  exact ⟨rfl, hb1⟩

set_option maxHeartbeats 2000000 in
theorem among_all (L B g : Nat) (w : World) (hL : L ≤ 4611686018427387840) (hB : B < 18446744073709551616) (hr : w.heap[g]? = some (.cells #[.int .u64 (L : Int), .int .u64 (B : Int)] 24 (0, 0))) :
    Calls Tryd.prog 30 #[.agg #[.int .u64 (L : Int), .int .u64 (B : Int)], .func (.func 31) #[] #[.pointer (some ⟨g, 0, none⟩)]] w fun e w' => ∃ v, e = .returned v ∧ w'.ownsRow w.heap.size 22 1 v (picks (Hs L B) (L + 1) (Lib.bitLen B)).length (u64s (picks (Hs L B) (L + 1) (Lib.bitLen B))) ∧ Below w.heap.size w w' := by
  have hl := fun W => len_any B W hB
  have hC := fun W x (hx : x < 18446744073709551616) h => all1_any L B x g W (by omega) hB hx h
  have hb64 := bl_le B hB
  obtain ⟨W, hW, hWs, r0, hwW⟩ := boxes1 w #[.int .u64 (L : Int), .int .u64 (B : Int)] 24
  have HLow := Lib.hid hL
  have hgw : g < w.heap.size := (Array.getElem?_eq_some_iff.1 hr).1
  have hrW := (hwW.block _ hgw).trans hr
  have HGW := Lib.hid (Nat.lt_of_lt_of_le hgw hwW.size)
  obtain ⟨p, hp⟩ : ∃ p, p = picks (Hs L B) (L + 1) := ⟨_, rfl⟩
  rw [← hp]
  have HP := Lib.hid hp
  have HWs := Lib.hid hWs
  have hlt0 : w.heap.size < W.heap.size := by omega
  generalize Lib.bitLen B = b at *
  clear hL hB hp hWs hr
  go_enter Tryd.func30, Tryd.ntmps30
  have k1 := cell_of_row W _ 1 _ _ _ r0
  simp at k1
  go_wp2_with fail
  rw [← hW]
  clear hW
  refine (hl _).mono ?_
  rintro e wl ⟨rfl, rfl⟩
  clear k1
  go_wp2_with fail
  go_loopw [5, 11] (fun vr ir wr => ∃ j : Nat, j ≤ b ∧ ir = .int .i64 (j : Int) ∧ Hid (wr.ownsRow W.heap.size 22 1 vr (p j).length (u64s (p j))) ∧ Hid (Below W.heap.size W wr)) (fun _ ir _ => b - (intOf ir).toNat)
  case atStart => exact ⟨0, Nat.zero_le _, rfl, Lib.hid (by rw [HP.out]; exact World.ownsRow_nil _ _ _ _), Lib.hid (Below.refl _ _)⟩
  case round =>
    obtain ⟨j, hj, rfl, HO, HBl⟩ := hrel
    have hbz := HBl.out
    have k0 := cellz (j := 0) (u := .int .u64 (L : Int)) hbz r0 rfl
    have hrz := (hbz.block _ HGW.out).trans hrW
    have hsz := hbz.size
    clear hbz
    by_cases hlt : j < b
    · have hlo := HLow.out
      have hC' := fun W h => hC W (L + 1 + j) (by omega) h
      have d1 : decide ((j : Int) < (b : Int)) = true := by simp; omega
      have e1 : IntKind.u64.wrap ((L : Int) + 1) = (L : Int) + 1 := u64w _ (by omega) (by omega)
      have e2 : IntKind.u64.wrap ((L : Int) + 1 + (j : Int)) = (L : Int) + 1 + (j : Int) := u64w _ (by omega) (by omega)
      have e3 : IntKind.u64.wrap (j : Int) = (j : Int) := u64w _ (by omega) (by omega)
      have HLT := Lib.hid hlt
      have hpl : (p j).length ≤ 64 := by rw [HP.out]; have := picks_len (Hs L B) (L + 1) j; omega
      clear hlo hlt
      obtain ⟨u, hu⟩ : ∃ u, Hs L B (L + 1 + j) = u := ⟨_, rfl⟩
      simp only [hu] at hC'
      have HU := Lib.hid hu
      clear hu
      have hxx : ((L + 1 + j : Nat) : Int) = (L : Int) + 1 + (j : Int) := by omega
      rw [hxx] at hC'
      cases u
      · go_wp2_with (first
          | (go_at_call 31; (with_reducible refine (hC' _ hrz).mono ?_); rintro e w3 ⟨rfl, hb3⟩
             have ho3 := Lib.hid (HO.out.kept (grow_below hb3) (Classical.em _))))
        go_roundw
        case rel => exact ⟨j + 1, by have := HLT.out; omega, by go_num, (by rw [show p (j + 1) = p j by rw [HP.out]; exact picks_no HU.out]; exact ho3), Lib.hid (HBl.out.trans (hb3.mono HBl.out.size))⟩
        case measure => have := HLT.out; simp [intOf]; omega
      · go_wp2_with (first
          | (go_at_call 31; (with_reducible refine (hC' _ hrz).mono ?_); rintro e w3 ⟨rfl, hb3⟩
             have ho3 := Lib.hid (HO.out.kept (grow_below hb3) (Classical.em _))
             have hz3 := Lib.hid (HBl.out.trans (hb3.mono HBl.out.size))
             have hs3 := hz3.out.size)
          | (at_builtin; refine wpL_app rfl _ _ _ _ rfl Elem64 rfl rfl (ho3.out.alloc _) (Src.lit Tryd.underlying36 _ rfl (by intro u hu; simp at hu; subst hu; rfl)) (by unfold maxLen; omega) (by omega) (by simp; omega) ?_; intro v2 w2 hown2 hg2 hat2))
        go_roundw
        case rel =>
          refine ⟨j + 1, by have := HLT.out; omega, by go_num, Lib.hid ?_, Lib.hid ((hz3.out.alloc hs3 _).grown hg2 (by simp; omega) (fun k e => (ho3.out.lt k e).1))⟩
          rw [show p (j + 1) = p j ++ [L + 1 + j] by rw [HP.out]; exact picks_yes HU.out, u64s_snoc, List.length_append, hxx]
          exact hown2
        case measure => have := HLT.out; simp [intOf]; omega
    · have d1 : decide ((j : Int) < (b : Int)) = false := by simp; omega
      obtain rfl : j = b := by omega
      have hl' := hwW.size
      go_wp2
      go_ret
      exact ⟨_, rfl, own_mono HO.out hl', hwW.trans (HBl.out.mono hwW.size)⟩
theorem all_any (L B : Nat) (w : World) (hL : L ≤ 4611686018427387840) (hB : B < 18446744073709551616) :
    Calls Tryd.prog 17 #[.agg #[.int .u64 (L : Int), .int .u64 (B : Int)]] w fun e w' => ∃ v, e = .returned v ∧ w'.ownsRow w.heap.size 22 1 v (picks (Hs L B) (L + 1) (Lib.bitLen B)).length (u64s (picks (Hs L B) (L + 1) (Lib.bitLen B))) ∧ Below w.heap.size w w' := by
  have hmf : ∀ (fn : Fn) (first cap : Array Value) (w : World), (Instr.makeFunc fn first cap).run Tryd.prog w = .ok (.func fn first cap) w := fun _ _ _ _ => rfl
  have hA := fun W h => among_all L B w.heap.size W hL hB h
  obtain ⟨W, hW, hWs, r0, hwW⟩ := boxes1 w #[.int .u64 (L : Int), .int .u64 (B : Int)] 24
  clear hL hB
  go_enter Tryd.func17, Tryd.ntmps17
  go_wp2_with fail
  rw [← hW]
  refine (hA _ r0).mono ?_
  rintro e w1 ⟨v, rfl, hown, hb1⟩
  go_wp2
  go_ret
  exact ⟨v, rfl, own_mono hown hwW.size, hwW.trans (hb1.mono hwW.size)⟩

set_option maxHeartbeats 2000000 in
theorem among_holes (L B g : Nat) (w : World) (hL : L ≤ 4611686018427387840) (hB : B < 18446744073709551616) (hr : w.heap[g]? = some (.cells #[.int .u64 (L : Int), .int .u64 (B : Int)] 24 (0, 0))) :
    Calls Tryd.prog 30 #[.agg #[.int .u64 (L : Int), .int .u64 (B : Int)], .func (.func 32) #[] #[.pointer (some ⟨g, 0, none⟩)]] w fun e w' => ∃ v, e = .returned v ∧ w'.ownsRow w.heap.size 22 1 v (picks (fun x => !Hs L B x) (L + 1) (Lib.bitLen B)).length (u64s (picks (fun x => !Hs L B x) (L + 1) (Lib.bitLen B))) ∧ Below w.heap.size w w' := by
  have hl := fun W => len_any B W hB
  have hC := fun W x (hx : x < 18446744073709551616) h => holes1_any L B x g W (by omega) hB hx h
  have hb64 := bl_le B hB
  obtain ⟨W, hW, hWs, r0, hwW⟩ := boxes1 w #[.int .u64 (L : Int), .int .u64 (B : Int)] 24
  have HLow := Lib.hid hL
  have hgw : g < w.heap.size := (Array.getElem?_eq_some_iff.1 hr).1
  have hrW := (hwW.block _ hgw).trans hr
  have HGW := Lib.hid (Nat.lt_of_lt_of_le hgw hwW.size)
  obtain ⟨p, hp⟩ : ∃ p, p = picks (fun x => !Hs L B x) (L + 1) := ⟨_, rfl⟩
  rw [← hp]
  have HP := Lib.hid hp
  have HWs := Lib.hid hWs
  have hlt0 : w.heap.size < W.heap.size := by omega
  generalize Lib.bitLen B = b at *
  clear hL hB hp hWs hr
  go_enter Tryd.func30, Tryd.ntmps30
  have k1 := cell_of_row W _ 1 _ _ _ r0
  simp at k1
  go_wp2_with fail
  rw [← hW]
  clear hW
  refine (hl _).mono ?_
  rintro e wl ⟨rfl, rfl⟩
  clear k1
  go_wp2_with fail
  go_loopw [5, 11] (fun vr ir wr => ∃ j : Nat, j ≤ b ∧ ir = .int .i64 (j : Int) ∧ Hid (wr.ownsRow W.heap.size 22 1 vr (p j).length (u64s (p j))) ∧ Hid (Below W.heap.size W wr)) (fun _ ir _ => b - (intOf ir).toNat)
  case atStart => exact ⟨0, Nat.zero_le _, rfl, Lib.hid (by rw [HP.out]; exact World.ownsRow_nil _ _ _ _), Lib.hid (Below.refl _ _)⟩
  case round =>
    obtain ⟨j, hj, rfl, HO, HBl⟩ := hrel
    have hbz := HBl.out
    have k0 := cellz (j := 0) (u := .int .u64 (L : Int)) hbz r0 rfl
    have hrz := (hbz.block _ HGW.out).trans hrW
    have hsz := hbz.size
    clear hbz
    by_cases hlt : j < b
    · have hlo := HLow.out
      have hC' := fun W h => hC W (L + 1 + j) (by omega) h
      have d1 : decide ((j : Int) < (b : Int)) = true := by simp; omega
      have e1 : IntKind.u64.wrap ((L : Int) + 1) = (L : Int) + 1 := u64w _ (by omega) (by omega)
      have e2 : IntKind.u64.wrap ((L : Int) + 1 + (j : Int)) = (L : Int) + 1 + (j : Int) := u64w _ (by omega) (by omega)
      have e3 : IntKind.u64.wrap (j : Int) = (j : Int) := u64w _ (by omega) (by omega)
      have HLT := Lib.hid hlt
      have hpl : (p j).length ≤ 64 := by rw [HP.out]; have := picks_len (fun x => !Hs L B x) (L + 1) j; omega
      clear hlo hlt
      obtain ⟨u, hu⟩ : ∃ u, (!Hs L B (L + 1 + j)) = u := ⟨_, rfl⟩
      simp only [hu] at hC'
      have HU := Lib.hid hu
      clear hu
      have hxx : ((L + 1 + j : Nat) : Int) = (L : Int) + 1 + (j : Int) := by omega
      rw [hxx] at hC'
      cases u
      · go_wp2_with (first
          | (go_at_call 32; (with_reducible refine (hC' _ hrz).mono ?_); rintro e w3 ⟨rfl, hb3⟩
             have ho3 := Lib.hid (HO.out.kept (grow_below hb3) (Classical.em _))))
        go_roundw
        case rel => exact ⟨j + 1, by have := HLT.out; omega, by go_num, (by rw [show p (j + 1) = p j by rw [HP.out]; exact picks_no HU.out]; exact ho3), Lib.hid (HBl.out.trans (hb3.mono HBl.out.size))⟩
        case measure => have := HLT.out; simp [intOf]; omega
      · go_wp2_with (first
          | (go_at_call 32; (with_reducible refine (hC' _ hrz).mono ?_); rintro e w3 ⟨rfl, hb3⟩
             have ho3 := Lib.hid (HO.out.kept (grow_below hb3) (Classical.em _))
             have hz3 := Lib.hid (HBl.out.trans (hb3.mono HBl.out.size))
             have hs3 := hz3.out.size)
          | (at_builtin; refine wpL_app rfl _ _ _ _ rfl Elem64 rfl rfl (ho3.out.alloc _) (Src.lit Tryd.underlying36 _ rfl (by intro u hu; simp at hu; subst hu; rfl)) (by unfold maxLen; omega) (by omega) (by simp; omega) ?_; intro v2 w2 hown2 hg2 hat2))
        go_roundw
        case rel =>
          refine ⟨j + 1, by have := HLT.out; omega, by go_num, Lib.hid ?_, Lib.hid ((hz3.out.alloc hs3 _).grown hg2 (by simp; omega) (fun k e => (ho3.out.lt k e).1))⟩
          rw [show p (j + 1) = p j ++ [L + 1 + j] by rw [HP.out]; exact picks_yes HU.out, u64s_snoc, List.length_append, hxx]
          exact hown2
        case measure => have := HLT.out; simp [intOf]; omega
    · have d1 : decide ((j : Int) < (b : Int)) = false := by simp; omega
      obtain rfl : j = b := by omega
      have hl' := hwW.size
      go_wp2
      go_ret
      exact ⟨_, rfl, own_mono HO.out hl', hwW.trans (HBl.out.mono hwW.size)⟩
theorem holes_any (L B : Nat) (w : World) (hL : L ≤ 4611686018427387840) (hB : B < 18446744073709551616) :
    Calls Tryd.prog 19 #[.agg #[.int .u64 (L : Int), .int .u64 (B : Int)]] w fun e w' => ∃ v, e = .returned v ∧ w'.ownsRow w.heap.size 22 1 v (picks (fun x => !Hs L B x) (L + 1) (Lib.bitLen B)).length (u64s (picks (fun x => !Hs L B x) (L + 1) (Lib.bitLen B))) ∧ Below w.heap.size w w' := by
  have hmf : ∀ (fn : Fn) (first cap : Array Value) (w : World), (Instr.makeFunc fn first cap).run Tryd.prog w = .ok (.func fn first cap) w := fun _ _ _ _ => rfl
  have hA := fun W h => among_holes L B w.heap.size W hL hB h
  obtain ⟨W, hW, hWs, r0, hwW⟩ := boxes1 w #[.int .u64 (L : Int), .int .u64 (B : Int)] 24
  clear hL hB
  go_enter Tryd.func19, Tryd.ntmps19
  go_wp2_with fail
  rw [← hW]
  refine (hA _ r0).mono ?_
  rintro e w1 ⟨v, rfl, hown, hb1⟩
  go_wp2
  go_ret
  exact ⟨v, rfl, own_mono hown hwW.size, hwW.trans (hb1.mono hwW.size)⟩

end Go.Proofs.YtijkagfppeeegaaDoor
