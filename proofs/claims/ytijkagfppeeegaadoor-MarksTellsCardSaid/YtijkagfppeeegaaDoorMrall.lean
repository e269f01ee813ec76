/- The contract of the reference's All. -/
import Derived.Test.YtijkagfppeeegaaDoorMarks2
import Derived.Deep.DeepCutAuto
import Derived.Deep.CutBlock
namespace Go.Proofs.YtijkagfppeeegaaDoor
open Go.RowKit

/-- Those of the numbers behind b, so many of them, of which f says yes. -/
def picks (f : Nat → Bool) (b : Nat) : Nat → List Nat
  | 0 => []
  | j + 1 => if f (b + j) = true then picks f b j ++ [b + j] else picks f b j
theorem picks_yes {f : Nat → Bool} {b j : Nat} (h : f (b + j) = true) : picks f b (j + 1) = picks f b j ++ [b + j] := if_pos h
theorem picks_no {f : Nat → Bool} {b j : Nat} (h : f (b + j) = false) : picks f b (j + 1) = picks f b j := if_neg (by rw [h]; decide)
theorem picks_len (f : Nat → Bool) (b : Nat) : ∀ j, (picks f b j).length ≤ j
  | 0 => Nat.le_refl _
  | j + 1 => by
    have := picks_len f b j
    unfold picks
    split
    · rw [List.length_append]; exact Nat.succ_le_succ this
    · omega
/-- Behind the last one of which it says yes there is no more. -/
theorem picks_more (f : Nat → Bool) (b j : Nat) : ∀ k, (∀ i, j ≤ i → f (b + i) = false) → picks f b (j + k) = picks f b j
  | 0, _ => rfl
  | k + 1, h => by rw [← Nat.add_assoc, picks_no (h (j + k) (by omega))]; exact picks_more f b j k h
theorem Elem64 : Elem Tryd.prog 36 22 (.int .u64 0) 1 8 := Elem.mk_ Tryd.underlying36 (by kernel_rfl) rfl (by decide)
theorem u64s_snoc (l : List Nat) (x : Nat) : u64s (l ++ [x]) = u64s l ++ [.int .u64 (x : Int)] := by simp [u64s]
theorem grow_below {w w' : World} (h : Below w.heap.size w w') : w.grownBy w' none := by
  exact ⟨h.os, h.tape, h.output, h.size, fun i hi _ => h.block i hi⟩

theorem own_mono {w : World} {base base' : Nat} {e : TypeId} {size : Nat} {v : Value} {n : Nat} {xs : List Value} (h : w.ownsRow base e size v n xs) (hb : base' ≤ base) : w.ownsRow base' e size v n xs := by
  obtain ⟨h1, h2⟩ := h
  refine ⟨h1, ?_⟩
  rcases h2 with h2 | ⟨g, cap, cur, h3, h4, h5⟩
  · exact .inl h2
  · exact .inr ⟨g, cap, cur, h3, Nat.le_trans hb h4, h5⟩

set_option maxHeartbeats 2000000 in
theorem rall_any (L B : Nat) (w : World) (hL : L ≤ 4611686018427387840) (hB : B < 18446744073709551616) :
    Calls Tryd.prog 18 #[.agg #[.int .u64 (L : Int), .int .u64 (B : Int)]] w fun e w' => ∃ v, e = .returned v ∧ w'.ownsRow w.heap.size 22 1 v (picks (Hs L B) (L + 1) 64).length (u64s (picks (Hs L B) (L + 1) 64)) ∧ Below w.heap.size w w' := by
  have hA := fun W x (hx : x < 18446744073709551616) => rhas_any L B x W (by omega) hB hx
  obtain ⟨W, hW, hWs, r0, hwW⟩ := boxes1 w #[.int .u64 (L : Int), .int .u64 (B : Int)] 25
  have HLow := Lib.hid hL
  obtain ⟨p, hp⟩ : ∃ p, p = picks (Hs L B) (L + 1) := ⟨_, rfl⟩
  rw [← hp]
  have HP := Lib.hid hp
  clear hL hB hp
  go_enter Tryd.func18, Tryd.ntmps18
  go_upto_block 0 with (fail)
  rw [← hW]
  clear hW
  go_wp2_with fail
  go_loopw [3, 4] (fun vr kr wr => ∃ j : Nat, j ≤ 64 ∧ kr = .int .u64 ((j : Int) + 1) ∧ Hid (wr.ownsRow W.heap.size 22 1 vr (p j).length (u64s (p j))) ∧ Hid (Below W.heap.size W wr)) (fun _ kr _ => 66 - (intOf kr).toNat)
  case atStart => exact ⟨0, by omega, rfl, Lib.hid (by rw [HP.out]; exact World.ownsRow_nil _ _ _ _), Lib.hid (Below.refl _ _)⟩
  case round =>
    obtain ⟨j, hj, rfl, HO, HBl⟩ := hrel
    have hbl := HBl.out
    have k0 := cellz (j := 0) (u := .int .u64 (L : Int)) hbl r0 rfl
    have k1 := cellz (j := 1) (u := .int .u64 (B : Int)) hbl r0 rfl
    have hsz := hbl.size
    have hsz1 : w.heap.size < wr.heap.size := by omega
    clear hbl
    by_cases hlt : j < 64
    · have hl := HLow.out
      have hA' := fun W => hA W (L + 1 + j) (by omega)
      have d1 : decide ((j : Int) + 1 ≤ 64) = true := by simp; omega
      have e1 : IntKind.u64.wrap ((L : Int) + ((j : Int) + 1)) = (L : Int) + ((j : Int) + 1) := u64w _ (by omega) (by omega)
      have e2 : IntKind.u64.wrap ((j : Int) + 1 + 1) = (j : Int) + 1 + 1 := u64w _ (by omega) (by omega)
      have HLT := Lib.hid hlt
      have hpl : (p j).length ≤ 64 := by rw [HP.out]; have := picks_len (Hs L B) (L + 1) j; omega
      clear hl hlt
      obtain ⟨u, hu⟩ : ∃ u, Hs L B (L + 1 + j) = u := ⟨_, rfl⟩
      rw [hu] at hA'
      have HU := Lib.hid hu
      clear hu
      have hxx : ((L + 1 + j : Nat) : Int) = (L : Int) + ((j : Int) + 1) := by omega
      rw [hxx] at hA'
      cases u
      · go_wp2_with (go_at_call 10; first
          | ((with_reducible refine (hA' _).mono ?_); rintro e w3 ⟨rfl, hb3⟩
             have k0 := kept hb3 k0 hsz1
             have k1 := kept hb3 k1 hsz1
             have ho3 := Lib.hid (HO.out.kept (grow_below hb3) (Classical.em _))))
        go_roundw
        case rel => exact ⟨j + 1, by have := HLT.out; omega, by go_num, (by rw [show p (j + 1) = p j by rw [HP.out]; exact picks_no HU.out]; exact ho3), Lib.hid (HBl.out.trans (hb3.mono HBl.out.size))⟩
        case measure => have := HLT.out; simp [intOf]; omega
      · go_wp2_with (first
          | (go_at_call 10; (with_reducible refine (hA' _).mono ?_); rintro e w3 ⟨rfl, hb3⟩
             have k0 := kept hb3 k0 hsz1
             have k1 := kept hb3 k1 hsz1
             have ho3 := Lib.hid (HO.out.kept (grow_below hb3) (Classical.em _))
             have hz3 := Lib.hid (HBl.out.trans (hb3.mono HBl.out.size))
             have hs3 := hz3.out.size)
          | (at_builtin; refine wpL_app rfl _ _ _ _ rfl Elem64 rfl rfl (ho3.out.alloc _) (Src.lit Tryd.underlying36 _ rfl (by intro u hu; simp at hu; subst hu; rfl)) (by unfold maxLen; omega) (by omega) (by simp; omega) ?_; intro v2 w2 hown2 hg2 hat2))
        go_roundw
        case rel =>
          refine ⟨j + 1, by have := HLT.out; omega, by go_num, Lib.hid ?_, Lib.hid ((hz3.out.alloc hs3 _).grown hg2 (by simp; omega) (fun k e => (ho3.out.lt k e).1))⟩
          rw [show p (j + 1) = p j ++ [L + 1 + j] by rw [HP.out]; exact picks_yes HU.out, u64s_snoc, List.length_append, hxx]
          exact hown2
        case measure => have := HLT.out; simp [intOf]; omega
    · have d1 : decide ((j : Int) + 1 ≤ 64) = false := by simp; omega
      obtain rfl : j = 64 := by omega
      have hl := hwW.size
      go_wp2
      go_ret
      exact ⟨_, rfl, own_mono HO.out hl, hwW.trans (HBl.out.mono hwW.size)⟩

end Go.Proofs.YtijkagfppeeegaaDoor
