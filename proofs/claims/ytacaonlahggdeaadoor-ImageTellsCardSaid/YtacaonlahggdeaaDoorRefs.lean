/- Contracts of the document's own check sum (keelsonref02). -/
import Derived.Test.YtacaonlahggdeaaDoorSeal
import Derived.Test.YtacaonlahggdeaaDoorRefa
import Derived.Test.YtacaonlahggdeaaDoorSegs
namespace Go.Proofs.YtacaonlahggdeaaDoor
open Go.RowKit

theorem rbit_any (n b : Nat) (w : World) (hn : Hid (n < 4294967296)) (hb : b ≤ 1) :
    Calls Tryd.prog 68 #[.int .u32 (n : Int), .int .u32 (b : Int)] w fun e w' => e = .returned (.int .u32 ((stp (n ^^^ b) : Nat) : Int)) ∧ w = w' := by
  have hx : bits .xor .u32 (n : Int) (b : Int) = ((n ^^^ b : Nat) : Int) := xor_u32 n b hn.out (by omega)
  have hd : (n ^^^ b) / 2 = n / 2 := by rw [Nat.xor_div_two, show b / 2 = 0 from by omega, Nat.xor_zero]
  have hlt : n ^^^ b < 4294967296 := Nat.xor_lt_two_pow (n := 32) hn.out (by omega)
  have ha := and_one (n ^^^ b) hlt
  have hs : stp (n ^^^ b) = if (n ^^^ b) % 2 = 1 then n / 2 ^^^ 2197175160 else n / 2 := by unfold stp; rw [hd]
  generalize n ^^^ b = x at *
  have HS := Lib.hid hs
  clear hs hd
  rcases Nat.mod_two_eq_zero_or_one x with hp | hp
  · rw [hp] at ha
    have HP := Lib.hid hp
    clear hp
    go_enter Tryd.func68, Tryd.ntmps68
    go_wp2
    go_ret
    exact ⟨by rw [HS.out, if_neg (by rw [HP.out]; decide)]; simp, rfl⟩
  · rw [hp] at ha
    have HP := Lib.hid hp
    clear hp
    go_enter Tryd.func68, Tryd.ntmps68
    go_wp2
    go_ret
    exact ⟨by rw [HS.out, if_pos HP.out, ← xor_poly n hn.out]; rfl, rfl⟩

theorem bit_at (x : UInt8) (k : Nat) : ∃ bb : Nat, bits .and .u32 ((x.toNat : Int) / 2 ^ k % 4294967296) 1 = (bb : Int) ∧ bb ≤ 1 ∧ Hid (bb = x.toNat / 2 ^ k % 2) := by
  have hx := x.toNat_lt
  have h1 : x.toNat / 2 ^ k ≤ x.toNat := Nat.div_le_self _ _
  refine ⟨x.toNat / 2 ^ k % 2, ?_, by omega, Lib.hid rfl⟩
  have e : ((x.toNat : Int) / 2 ^ k % 4294967296) = ((x.toNat / 2 ^ k : Nat) : Int) := by
    have e1 : ((x.toNat : Int) / 2 ^ k) = ((x.toNat / 2 ^ k : Nat) : Int) := by simp
    rw [e1]
    have h2 : ((x.toNat / 2 ^ k : Nat) : Int) ≤ (x.toNat : Int) := by exact_mod_cast h1
    exact Int.emod_eq_of_lt (Int.natCast_nonneg _) (by omega)
  rw [e, and_one _ (by omega)]
theorem rmore_any (A : Option Addr) (n c : Nat) (l : List UInt8) (m : Nat) (w : World) (hsl : Rd w w.heap.size 1 A n c (u8s l)) (hm : Hid (m < 4294967296)) (hn : n ≤ 1000000) :
    Calls Tryd.prog 62 #[.int .u32 (m : Int), .slice A n c] w fun e w' => e = .returned (.int .u32 ((more m l : Nat) : Int)) ∧ w = w' := by
  have hln : l.length = n := by have := hsl.len; rwa [u8s_len] at this
  have HLN := Lib.hid hln
  clear hln
  have hc0 : bits .xor .u32 (m : Int) 4294967295 = ((comp m : Nat) : Int) := xor_u32 m 4294967295 hm.out (by decide)
  go_enter Tryd.func62, Tryd.ntmps62
  go_wp2
  clear hc0
  go_loop [5, 6, 7] (fun nr ir _ => ∃ i q : Nat, i ≤ n ∧ Hid (q = crcN (comp m) (l.take i)) ∧ ir = .int .i64 i ∧ nr = .int .u32 (q : Int)) (fun _ ir _ => n - (intOf ir).toNat)
  case atStart => exact ⟨0, comp m, Nat.zero_le _, Lib.hid rfl, rfl, rfl⟩
  case round =>
    obtain ⟨i, q, hi, hq, rfl, rfl⟩ := hrel
    have hq32 : Hid (q < 4294967296) := by rw [hq.out]; exact crcN_lt _ _ (comp_lt _ hm.out)
    by_cases hlt : i < n
    · obtain ⟨b, o, u, rfl, hbl, hu, hc⟩ := hsl.at_ hlt
      obtain ⟨x, hx, rfl⟩ := u8s_get _ _ _ hu
      have HX := Lib.hid hx
      clear hu hx
      have hx255 : (x.toNat : Int) ≤ 255 := by have := x.toNat_lt; omega
      have hx0 : 0 ≤ (x.toNat : Int) := by omega
      go_wp2
      go_loop [5, 7] (fun nr kr => ∃ k p : Nat, k ≤ 8 ∧ Hid (p = bits_ q x.toNat k) ∧ kr = .int .i64 k ∧ nr = .int .u32 (p : Int)) (fun _ kr => 8 - (intOf kr).toNat)
      case atStart => exact ⟨0, q, Nat.zero_le _, Lib.hid rfl, rfl, rfl⟩
      case round =>
        obtain ⟨k, p, hk, hp, rfl, rfl⟩ := hrel
        by_cases hk8 : k < 8
        · obtain ⟨bb, hbit, hb1, hbb⟩ := bit_at x k
          have hp32 : Hid (p < 4294967296) := by rw [hp.out]; exact bits_lt _ _ _ hq32.out
          go_wp2_with (go_at_call 68; refine (rbit_any p bb _ hp32 hb1).mono ?_; rintro e w1 ⟨rfl, rfl⟩)
          go_round
          case rel => exact ⟨k + 1, stp (p ^^^ bb), by omega, Lib.hid (by rw [bits_, hp.out, hbb.out]), by go_num, rfl⟩
          case measure => simp [intOf]; omega
        · go_wp2
          go_roundw
          case rel =>
            obtain rfl : k = 8 := by omega
            exact ⟨i + 1, p, by omega, Lib.hid (by rw [crcN_take _ _ _ _ HX.out, hp.out, bits_eight, hq.out]), by go_num, rfl⟩
          case measure => simp [intOf]; omega
    · go_wp2
      go_ret
      have hin : i = n := by omega
      refine ⟨?_, rfl⟩
      have e : more m l = comp q := by rw [hq.out, List.take_of_length_le (by rw [HLN.out, hin]; exact Nat.le_refl _)]; rfl
      have e2 : bits .xor .u32 (q : Int) 4294967295 = ((comp q : Nat) : Int) := xor_u32 q 4294967295 hq32.out (by decide)
      rw [e, ← e2]
      rfl

theorem rsum_any (A : Option Addr) (n c : Nat) (l : List UInt8) (w : World) (h : Rd w w.heap.size 1 A n c (u8s l)) (hn : n ≤ 1000000) :
    Calls Tryd.prog 49 #[.slice A n c] w fun e w' => e = .returned (.int .u32 ((more 0 l : Nat) : Int)) ∧ w = w' := by
  go_enter Tryd.func49, Tryd.ntmps49
  go_wp2_with (go_at_call 62; refine (rmore_any _ _ _ l 0 _ h (Lib.hid (by decide)) hn).mono ?_; rintro e w1 ⟨rfl, rfl⟩)
  go_ret
  exact ⟨rfl, rfl⟩

theorem rseal_any (A : Option Addr) (n c : Nat) (l : List UInt8) (w : World) (h : Rd w w.heap.size 1 A n c (u8s l)) (hn : n ≤ 500000) :
    Calls Tryd.prog 25 #[.slice A n c] w fun e w' => ∃ v, e = .returned v ∧ w'.ownsRow w.heap.size 5 1 v (n + 4) (u8s (sealOf l)) ∧ Below w.heap.size w w' := by
  have hM := sum_lt l
  have hS := rsum_any A n c l w h (by omega)
  have hfin : l ++ le 4 (more 0 l) = sealOf l := rfl
  generalize more 0 l = M at hM hS hfin
  have HS := Lib.hid hS
  have HF := Lib.hid hfin
  have HM := Lib.hid (show M < 18446744073709551616 by omega)
  clear hS hfin
  have hM1 : (M : Int) ≤ 4294967295 := by omega
  go_enter Tryd.func25, Tryd.ntmps25
  go_wp2_with (first
    | (go_at_call 49; refine (HS.out).mono ?_; rintro e w1 ⟨rfl, rfl⟩)
    | (go_at_call 48; refine (rput_good _ _ _ l 4 M _ h (by omega) (by omega) (by omega) HM).mono ?_; rintro e w2 ⟨v2, rfl, hown2, hb2⟩))
  go_ret
  exact ⟨_, rfl, by rw [← HF.out]; exact hown2, hb2⟩

theorem ropen_short (A : Option Addr) (n c : Nat) (w : World) (hn : n < 4) :
    Calls Tryd.prog 38 #[.slice A n c] w (Tells w [] 10) := by
  go_enter Tryd.func38, Tryd.ntmps38
  go_wp2
  go_ret2
  exact ⟨_, _, _, rfl, rfl, Rd.nil_, Below.refl _ _⟩

/-- Whether a text is the seal of all but its last bytes. -/
theorem sealed_iff (l : List UInt8) (h4 : 4 ≤ l.length) : sealOf (l.take (l.length - 4)) = l ↔ unle (l.drop (l.length - 4)) = more 0 (l.take (l.length - 4)) := by
  have hd : (l.drop (l.length - 4)).length = 4 := by rw [List.length_drop]; omega
  have hl : l.take (l.length - 4) ++ l.drop (l.length - 4) = l := List.take_append_drop _ _
  constructor
  · intro h
    have h2 : le 4 (more 0 (l.take (l.length - 4))) = l.drop (l.length - 4) := by
      have h3 : l.take (l.length - 4) ++ le 4 (more 0 (l.take (l.length - 4))) = l.take (l.length - 4) ++ l.drop (l.length - 4) := by rw [hl]; exact h
      exact List.append_cancel_left h3
    rw [← h2, unle_le, Nat.mod_eq_of_lt (sum_lt _)]
  · intro h
    have h2 := le_unle (l.drop (l.length - 4))
    rw [hd, h] at h2
    unfold sealOf
    rw [h2, hl]

theorem str_inj {a b : List UInt8} (h : (str a).toList = (str b).toList) : a = b := by
  have e : ∀ l : List UInt8, (str l).toList = l := fun l => ByteArray.toList_mk l
  rwa [e, e] at h
theorem ropen_long (A : Option Addr) (n c : Nat) (l : List UInt8) (w : World) (h : Rd w w.heap.size 1 A n c (u8s l)) (hn : n ≤ 500000) (h4 : 4 ≤ n) :
    Calls Tryd.prog 38 #[.slice A n c] w (Tells w (openOf l).1 (openOf l).2) := by
  have hln : l.length = n := by have := h.len; rwa [u8s_len] at this
  have hnc : (n : Int) ≤ (c : Int) := by have := h.1; omega
  have hrt : Rd w w.heap.size 1 A (n - 4) c (u8s (l.take (n - 4))) := by rw [u8s_take]; exact h.pre (by omega)
  have hiff := sealed_iff l (by omega)
  have hopen : openOf l = if unle (l.drop (n - 4)) = more 0 (l.take (n - 4)) then (l.take (n - 4), 0) else ([], 12) := by
    unfold openOf
    rw [hln, if_neg (by omega)]
  rw [hln] at hiff
  have HO := Lib.hid hopen
  clear hopen
  by_cases hs : sealOf (l.take (n - 4)) = l
  · have h1 := hiff.1 hs
    have q1 : ((str (sealOf (l.take (n - 4)))).toList == (str l).toList) = true := by rw [hs]; exact beq_self_eq_true _
    have H1 := Lib.hid h1
    have HLN := Lib.hid hln
    clear h1 hiff hs hln
    go_enter Tryd.func38, Tryd.ntmps38
    go_wp2
    refine wp_grow [([0, 3, 4], 1)] [2, 5] (by kernel_rfl) (by kernel_rfl) (fun d _ _ _ _ h => by cases d <;> exact h) fun wd hbd => ?_
    have hzd := hbd.size
    intro f hf
    have F1 := fun z => run_str (P := Tryd.prog) Tryd.underlying62 Tryd.underlying5 Tryd.underlying9 (h.below (hf z))
    simp only [pickI, Option.toList_some, List.cons_append, List.nil_append, List.getElem?_toArray, List.getElem?_cons_succ, List.getElem?_cons_zero]
    repeat (go_big_quiet_step (fail))
    refine wpQuiet_nil ?_
    clear F1 hf f
    refine seg_op (by simp only [List.getElem?_toArray, List.getElem?_cons_succ, List.getElem?_cons_zero]; rfl) fun K hK => ?_
    go_simp
    refine (rseal_any _ _ _ _ _ ((hrt.below hbd).more hzd) (by omega)).mono ?_
    rintro e w2 ⟨v2, rfl, hown2, hb2⟩
    rw [show n - 4 + 4 = n from by omega] at hown2
    obtain ⟨A2, c2, rfl⟩ := ownsRow_form hown2
    have hr2 := ownsRow_rd hown2
    refine hK.out _ _ ⟨fun x => Below w2.heap.size w2 x, Below.refl _ _, fun x hx => hbd.trans ((hb2.trans (hx.mono hb2.size)).mono hzd), ?_⟩
    clear hK K
    intro f hf
    have F2 := fun z => run_str (P := Tryd.prog) Tryd.underlying62 Tryd.underlying5 Tryd.underlying9 (hr2.below (hf z))
    simp only [pickI, Option.toList_some, List.cons_append, List.nil_append, List.getElem?_toArray, List.getElem?_cons_succ, List.getElem?_cons_zero]
    repeat (go_big_quiet_step (fail))
    refine wpQuiet_nil ?_
    clear F2 hf f
    go_wp2
    go_ret2
    have hb02 := hbd.trans (hb2.mono hzd)
    rw [HO.out, if_pos H1.out]
    exact ⟨_, _, _, rfl, by rw [List.length_take, HLN.out]; omega, (hrt.below hb02).more hb02.size, hb02⟩
  · have h1 := fun x => hs (hiff.2 x)
    have q1 : ((str (sealOf (l.take (n - 4)))).toList == (str l).toList) = false := by
      rw [beq_eq_false_iff_ne]
      intro e
      exact hs (str_inj e)
    have H1 := Lib.hid h1
    clear h1 hiff hs hln
    go_enter Tryd.func38, Tryd.ntmps38
    go_wp2
    refine wp_grow [([0, 3, 4], 1)] [2, 5] (by kernel_rfl) (by kernel_rfl) (fun d _ _ _ _ h => by cases d <;> exact h) fun wd hbd => ?_
    have hzd := hbd.size
    intro f hf
    have F1 := fun z => run_str (P := Tryd.prog) Tryd.underlying62 Tryd.underlying5 Tryd.underlying9 (h.below (hf z))
    simp only [pickI, Option.toList_some, List.cons_append, List.nil_append, List.getElem?_toArray, List.getElem?_cons_succ, List.getElem?_cons_zero]
    repeat (go_big_quiet_step (fail))
    refine wpQuiet_nil ?_
    clear F1 hf f
    refine seg_op (by simp only [List.getElem?_toArray, List.getElem?_cons_succ, List.getElem?_cons_zero]; rfl) fun K hK => ?_
    go_simp
    refine (rseal_any _ _ _ _ _ ((hrt.below hbd).more hzd) (by omega)).mono ?_
    rintro e w2 ⟨v2, rfl, hown2, hb2⟩
    rw [show n - 4 + 4 = n from by omega] at hown2
    obtain ⟨A2, c2, rfl⟩ := ownsRow_form hown2
    have hr2 := ownsRow_rd hown2
    refine hK.out _ _ ⟨fun x => Below w2.heap.size w2 x, Below.refl _ _, fun x hx => hbd.trans ((hb2.trans (hx.mono hb2.size)).mono hzd), ?_⟩
    clear hK K
    intro f hf
    have F2 := fun z => run_str (P := Tryd.prog) Tryd.underlying62 Tryd.underlying5 Tryd.underlying9 (hr2.below (hf z))
    simp only [pickI, Option.toList_some, List.cons_append, List.nil_append, List.getElem?_toArray, List.getElem?_cons_succ, List.getElem?_cons_zero]
    repeat (go_big_quiet_step (fail))
    refine wpQuiet_nil ?_
    clear F2 hf f
    go_wp2
    go_ret2
    have hb02 := hbd.trans (hb2.mono hzd)
    rw [HO.out, if_neg H1.out]
    exact ⟨_, _, _, rfl, rfl, Rd.nil_, hb02⟩

theorem ropen_any (A : Option Addr) (n c : Nat) (l : List UInt8) (w : World) (h : Rd w w.heap.size 1 A n c (u8s l)) (hn : n ≤ 500000) :
    Calls Tryd.prog 38 #[.slice A n c] w (Tells w (openOf l).1 (openOf l).2) := by
  by_cases h4 : n < 4
  · have hln : l.length = n := by have := h.len; rwa [u8s_len] at this
    have e : openOf l = ([], 10) := by unfold openOf; rw [if_pos (by omega)]
    rw [e]
    exact ropen_short A n c w h4
  · exact ropen_long A n c l w h hn (by omega)

end Go.Proofs.YtacaonlahggdeaaDoor
