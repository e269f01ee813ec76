/- The reference's last. -/
import Derived.Test.YtoopeppcmoolgaaMrbest
import Derived.Test.YtoopeppcmoolgaaMdata
namespace Go.Proofs.Ytoopeppcmoolgaa
open Go.RowKit
set_option maxRecDepth 20000

set_option maxHeartbeats 4000000 in
theorem rlast_any {w : World} {A : Option Addr} {n c : Nat} {Ls : List Li} (h : Slc Li.lay w A n c Ls) (hf : (flat Ls).length ≤ 1000) (base : Nat) (hb : base ≤ 4611686018427387904) :
    Calls Try.prog 33 #[.int .u64 (base : Int), .slice A n c] w fun r w' => r = .returned (.int .u64 ((base + hadN (hasE Ls base) 192 : Nat) : Int)) ∧ Below w.heap.size w w' := by
  have HBE := Lib.hid (fun W (hb' : Below w.heap.size w W) x (hx : x < 18446744073709551616) => rbest_any (h.below hb') hf x hx)
  have hbi : (base : Int) ≤ 4611686018427387904 := by omega
  have hbi0 : (0 : Int) ≤ (base : Int) := by omega
  clear h hf hb
  obtain ⟨f, hfq⟩ : ∃ f, hasE Ls base = f := ⟨_, rfl⟩
  rw [hfq]
  have HFQ := Lib.hid hfq
  clear hfq
  go_enter Try.func33, Try.ntmps33
  go_wp2
  go_loopw [5, 6, 8] (fun av kv _ wr => ∃ (i : Nat), i ≤ 192 ∧ kv = .int .u64 ((i : Int) + 1) ∧ av = .int .u64 ((base : Int) + ((hadN f i : Nat) : Int)) ∧ Hid (Below w.heap.size w wr)) (fun _ kv _ _ => 193 - (intOf kv).toNat)
  case atStart => exact ⟨0, Nat.zero_le _, rfl, by show _ = Value.int .u64 ((base : Int) + ((0 : Nat) : Int)); simp, Lib.hid (Below.refl _ _)⟩
  case round =>
    obtain ⟨i, hi, rfl, rfl, HBW⟩ := hrel
    by_cases hlt : i < 192
    · have hki : (i : Int) + 1 ≤ 192 := by omega
      obtain ⟨X, hX⟩ : ∃ X : Nat, X = base + 1 + i := ⟨_, rfl⟩
      have v1 : IntKind.u64.wrap ((base : Int) + ((i : Int) + 1)) = (X : Int) := by rw [u64w _ (by omega) (by omega)]; omega
      have v2 : IntKind.u64.wrap ((i : Int) + 1 + 1) = (i : Int) + 1 + 1 := u64w _ (by omega) (by omega)
      have hBE := HBE.out wr HBW.out X (by omega)
      have hsm : (bst Ls X).isSome = f i := by rw [← HFQ.out, hX]; rfl
      have hst : hadN f (i + 1) = if f i = true then i + 1 else hadN f i := rfl
      rw [hsm] at hBE
      have HX := Lib.hid (show (X : Int) = (base : Int) + ((i : Int) + 1) by omega)
      generalize f i = T at *
      generalize curE (bst Ls X) = e at *
      obtain ⟨ix, tm, st, kd, cl, rq, fr, ct, da, A1, bn, bc, ls⟩ := e
      unfold En.cells at hBE
      dsimp only at hBE
      have HB1 := Lib.hid hBE
      have HST := Lib.hid hst
      have HLT := Lib.hid hlt
      have hhd := hadN_le f i
      clear hBE hX hsm hst hlt
      generalize hadN f i = hd at *
      cases T
      · go_wp2_with (first
          | (go_at_call 11; refine HB1.out.mono ?_; rintro e w1 ⟨rfl, hb1⟩)
          | fail)
        go_roundw
        case rel => exact ⟨i + 1, HLT.out, by go_num, by rw [HST.out]; rfl, Lib.hid ((HBW.out.trans (hb1.mono HBW.out.size)).alloc (Nat.le_trans HBW.out.size hb1.size) _)⟩
        case measure => have := HLT.out; simp [intOf]; omega
      · go_wp2_with (first
          | (go_at_call 11; refine HB1.out.mono ?_; rintro e w1 ⟨rfl, hb1⟩)
          | fail)
        go_roundw
        case rel => exact ⟨i + 1, HLT.out, by go_num, by rw [HST.out, HX.out]; first | rfl | go_num | simp, Lib.hid ((HBW.out.trans (hb1.mono HBW.out.size)).alloc (Nat.le_trans HBW.out.size hb1.size) _)⟩
        case measure => have := HLT.out; simp [intOf]; omega
    · obtain rfl : i = 192 := by omega
      go_wp2
      go_ret
      exact ⟨rfl, HBW.out⟩
end Go.Proofs.Ytoopeppcmoolgaa
