/- The document's own Make (keelsonref05): the whole. -/
import Derived.Test.YtccfiblkgngecaaFrmake
namespace Go.Proofs.Ytccfiblkgngecaa
open Go.RowKit

def Z48 : List UInt8 := List.replicate 48 0
theorem ownsRow_whole {w : World} {base n g : Nat} {e : TypeId} {xs : List Value} (h : w.ownsRow base e 1 (.slice (some ⟨g, 0, none⟩) n n) n xs) : w.heap[g]? = some (.cells xs.toArray e (0, 0)) := by
  obtain ⟨hl, h2⟩ := h
  rcases h2 with ⟨hv, _⟩ | ⟨g', cap, cur, hv, _, hg, _, _, hcs, htake⟩
  · cases hv
  · cases hv
    rw [hg]
    have e : cur.toList = xs := by
      rw [← htake]
      exact (List.take_of_length_le (by rw [Array.length_toList]; omega)).symm
    rw [← e]
theorem row_rd {w : World} {g n : Nat} {e : TypeId} {xs : List UInt8} (h : w.heap[g]? = some (.cells (u8s xs).toArray e (0, 0))) (hn : xs.length = n) (hm : n ≤ maxLen) : Rd w w.heap.size 1 (some ⟨g, 0, none⟩) n n (u8s xs) :=
  ⟨Nat.le_refl _, hm, by rw [u8s_len]; omega, fun _ => ⟨g, 0, rfl, (Array.getElem?_eq_some_iff.1 h).1, fun j u hu => by
    rw [cell_of_row w g (0 + j) _ e (0, 0) h]
    simpa using hu⟩⟩
theorem laid_len (t : List UInt8) (k : Nat) (hk : k ≤ 48) (ht : k ≤ t.length) : (laid t k).length = 48 := by
  rw [laid, List.length_append, List.length_take, List.length_replicate]; omega

set_option maxHeartbeats 8000000 in
set_option maxRecDepth 8000 in
theorem rmake_good (m : Nat) (A : Option Addr) (n c : Nat) (l : List UInt8) (w : World) (h : Rd w w.heap.size 1 A n c (u8s l)) (hn : n ≤ 65536) (hm0 : 0 < m) (hm : m < 18446744073709551616) :
    Calls Try.prog 9 #[.int .u64 (m : Int), .slice A n c] w fun e w' => ∃ v, e = .returned (.tuple #[v, .int .i64 0]) ∧ w'.ownsRow w.heap.size 5 1 v (64 * sectorsOf l.length) (u8s (makeOf m l)) ∧ Below w.heap.size w w' := by
  have hln : l.length = n := by have := h.len; rwa [u8s_len] at this
  subst hln
  obtain ⟨k, hk⟩ : ∃ k, k = sectorsOf (l.length : Int) := ⟨_, rfl⟩
  have hk1 : l.length + 8 ≤ k * 48 := by rw [hk, sectorsOf_at _ hn]; omega
  have hk2 : k ≤ 2000 := by rw [hk, sectorsOf_at _ hn]; omega
  have hS := fun w => rsectors_any (l.length : Int) w (by simp [Lit.wf, IntKind.min, IntKind.max, IntKind.signed, IntKind.bits]; omega)
  rw [← hk] at hS
  unfold makeOf
  rw [← hk]
  obtain ⟨X, hX⟩ : ∃ X, X = sealOf (le 4 l.length ++ l) := ⟨_, rfl⟩
  have hXl : X.length = l.length + 8 := by rw [hX, sealOf_len, List.length_append, le_len]; omega
  obtain ⟨body, hbd⟩ : ∃ b, b = bodyOf l k := ⟨_, rfl⟩
  have hbody : body = X ++ List.replicate (k * 48 - X.length) 0 := by rw [hbd]; unfold bodyOf; rw [← hX, hXl]
  rw [← hbd]
  have HS := Lib.hid hS
  have HM := Lib.hid hm
  have HK1 := Lib.hid hk1
  have HX := Lib.hid hX
  have HXL := Lib.hid hXl
  have HB := Lib.hid hbody
  have hki : (k : Int) ≤ 2000 := by omega
  have q0 : ((m : Int) == 0) = false := by simp; omega
  have d1 : decide ((65536 : Int) < (l.length : Int)) = false := by simp; omega
  have HL : Hid (l.length < 18446744073709551616) := Lib.hid (by omega)
  have hn6 : l.length ≤ 70000 := by omega
  have hmake : ∀ w, (Instr.makeSlice 23 (.int .i64 48) (.int .i64 48)).run Try.prog w = .ok (.slice (some ⟨w.heap.size, 0, none⟩) 48 48) (w.alloc (.cells (u8s Z48).toArray 5)) := fun _ => by kernel_rfl
  clear hS hm hk hk1 hX hXl hbd hbody hm0 hn
  go_enter Try.func9, Try.ntmps9
  go_wp2_with (first
    | (go_at_call 24; first
        | (have hx3 := hown3; refine (rput_good none 0 0 [] 8 m _ Rd.nil_ (by omega) (by omega) (by omega) HM).mono ?_; rintro e w4 ⟨v4, rfl, hown4, hb4⟩
           rw [List.nil_append] at hown4
           have hb04 := hb03.trans (hb4.mono hb03.size)
           obtain ⟨A4, c4, rfl⟩ := ownsRow_form hown4
           have hrd4 := ownsRow_rd hown4
           have hrX := ((ownsRow_rd hown3).below hb4).more hb4.size)
        | (refine (rput_good none 0 0 [] 4 l.length _ Rd.nil_ (by omega) (by omega) (by omega) HL).mono ?_; rintro e w1 ⟨v1, rfl, hown1, hb1⟩
           rw [List.nil_append] at hown1))
    | (at_builtin; refine wpL_app (m := l.length) (y := .slice A l.length c) rfl (.tmp 20) (.tmp 21) _ _ rfl E_u8 rfl rfl hown1 ((h.below hb1).src Try.underlying23 (u8s_one l)) (by unfold maxLen; omega) (by omega) hb1.size ?_; intro v2 w2 hown2 hg2 hat2
       have hb02 := hb1.grown hg2 hb1.size (fun j e => (hown1.lt j e).1)
       obtain ⟨A2, c2, rfl⟩ := ownsRow_form hown2
       have hrd2 := ownsRow_rd hown2
       rw [← u8s_app] at hrd2)
    | (go_at_call 23; refine (rseal_any _ _ _ _ _ hrd2 (by omega)).mono ?_; rintro e w3 ⟨v3, rfl, hown3, hb3⟩
       rw [← HX.out, show 0 + 4 + l.length + 4 = l.length + 8 from by omega] at hown3
       obtain ⟨A3, c3, rfl⟩ := ownsRow_form hown3
       have hb03 := hb02.trans (hb3.mono hb02.size))
    | fail)
  have hown0 : w4.ownsRow w4.heap.size 5 1 (.slice none 0 0) 0 [] := World.ownsRow_nil _ _ _ _
  clear hown1 hown2 hown3 hown4 hrd2
  go_loopw [8, 9] (fun vr ir wr => ∃ i : Nat, i ≤ k ∧ ir = .int .i64 (i : Int) ∧ wr.ownsRow w4.heap.size 5 1 vr (64 * i) (u8s (secs m body i)) ∧ Below w4.heap.size w4 wr) (fun _ ir _ => k - (intOf ir).toNat)
  case atStart => exact ⟨0, Nat.zero_le _, rfl, hown0, Below.refl _ _⟩
  case round =>
    obtain ⟨i, hi, rfl, hown, hb⟩ := hrel
    by_cases hik : i < k
    · obtain ⟨K, hK⟩ : ∃ K, K = min 48 (X.length - 48 * i) := ⟨_, rfl⟩
      obtain ⟨t, ht⟩ : ∃ t, t = X.drop (48 * i) := ⟨_, rfl⟩
      have htl : t.length = X.length - 48 * i := by rw [ht, List.length_drop]
      have hXk := HXL.out
      have hK48 : K ≤ 48 := by omega
      have hKt : K ≤ t.length := by omega
      have hend : laid t K = (body.drop (48 * i)).take 48 := by
        rw [ht, HB.out]
        exact laid_end X k i K (by have := HK1.out; omega) hik hK
      have hs1 : secs m body (i + 1) = secs m body i ++ headB m ++ laid t K ++ le 8 m := by
        rw [hend]
        simp only [secs, sec, List.append_assoc]
      have HS1 := Lib.hid hs1
      have HT := Lib.hid ht
      have HK := Lib.hid hK
      have HTL := Lib.hid htl
      clear hs1 hend ht hK htl
      have hz4 := hb.size
      go_wp2_with (first
        | (go_at_call 11; refine (HS.out _).mono ?_; rintro e w0 ⟨rfl, rfl⟩)
        | fail)
      obtain ⟨wo, rfl⟩ : ∃ wo : World, wo = wr := ⟨_, rfl⟩
      obtain ⟨w5, hw5⟩ : ∃ w5, w5 = wo.alloc (.cells (u8s Z48).toArray 5) := ⟨_, rfl⟩
      rw [← hw5]
      have hp5 : w5.heap[wo.heap.size]? = some (.cells (u8s (laid t 0)).toArray 5 (0, 0)) := by rw [hw5, laid_zero]; exact heap_alloc_new wo _
      have hb5 : Below wo.heap.size wo w5 := by rw [hw5]; exact (Below.refl _ _).alloc (Nat.le_refl _) _
      have hz5 : w5.heap.size = wo.heap.size + 1 := by rw [hw5]; simp
      have hown5 := ownsRow_below hown hb5
      have hb45 : Below w4.heap.size w4 w5 := hb.trans (hb5.mono hz4)
      have hrX5 := (hrX.below hb45)
      have hrt5 := (hrd4.below hb45)
      have HZ5 := Lib.hid hz5
      obtain ⟨gp, hgp⟩ : ∃ gp, gp = wo.heap.size := ⟨_, rfl⟩
      rw [← hgp] at hp5
      rw [← hgp]
      have HGP := Lib.hid hgp
      clear hw5 hz5 hgp
      go_loopw [11] (fun kr wr2 => ∃ j : Nat, j ≤ K ∧ kr = .int .i64 (j : Int) ∧ wr2.heap[gp]? = some (.cells (u8s (laid t j)).toArray 5 (0, 0)) ∧ w5.grownBy wr2 (some gp)) (fun kr _ => K - (intOf kr).toNat)
      case atStart => exact ⟨0, Nat.zero_le _, rfl, hp5, World.grownBy.refl _ _⟩
      case round =>
        obtain ⟨j, hj, rfl, hrow, hg⟩ := hrel
        have hgp4 : w4.heap.size ≤ gp := by rw [HGP.out]; exact hz4
        have hrX6 := hrX5.keep (w' := wr) (fun b o hb => World.cell?_of_block (a := ⟨b, o, none⟩) (hg.block b (by have := hb45.size; omega) (fun e => by have := Option.some.inj e; omega)))
        by_cases hjK : j < K
        · obtain ⟨b, o, u, rfl, hbl, hu, hc⟩ := hrX6.at_ (k := i * 48 + j) (by have := HK.out; omega)
          obtain ⟨x, hx, rfl⟩ := u8s_get _ _ _ hu
          have hx2 : t[j]? = some x := by rw [HT.out, List.getElem?_drop, show 48 * i + j = i * 48 + j from by omega]; exact hx
          have hput : (u8s (laid t j)).toArray.setIfInBounds j (.int .u8 (x.toNat : Int)) = (u8s (laid t (j + 1))).toArray := laid_put t j x (by omega) hx2
          have cP : wr.cell? ⟨gp, j, none⟩ = some ((u8s (laid t j)).getD j (.int .u8 0)) := by
            rw [cell_of_row wr gp j _ _ _ hrow]
            have hl := laid_len t j (by omega) (by omega)
            simp [List.getD, u8s_len, hl, show j < 48 from by omega]
          have fP := frozen_of_row wr gp j _ _ hrow
          have hnew : (wr.setCell ⟨gp, j, none⟩ (.int .u8 (x.toNat : Int))).heap[gp]? = some (.cells (u8s (laid t (j + 1))).toArray 5 (0, 0)) := by
            rw [heap_setCell_same wr gp j _ _ _ hrow, hput]
          have HN := Lib.hid hnew
          have HU := Lib.hid hu
          have j48 : decide ((j : Int) < 48) = true := by simp; omega
          have hiX : (i : Int) * 48 + (j : Int) < ((l.length + 8 : Nat) : Int) := by have := HK.out; omega
          have hix : (i : Int) ≤ 2000 := by omega
          have hj48 : (j : Int) < 48 := by omega
          have hidx : ((i : Int) * 48 + (j : Int)).toNat = i * 48 + j := by omega
          have hx0 : (0 : Int) ≤ (x.toNat : Int) := by omega
          clear hu hx hx2 hput hnew
          go_wp2
          go_roundw
          case rel => exact ⟨j + 1, by omega, by go_num, HN.out, setCell_by hg (p := ⟨gp, j, none⟩) rfl _⟩
          case measure => simp [intOf]; omega
        · obtain rfl : j = K := by omega
          have hbW : Below w4.heap.size w4 wr := hb45.grown hg hb45.size (fun q e => by have := Option.some.inj e; omega)
          have hzW := hbW.size
          have hownW := hown5.kept hg (by
            rcases hq : Value.ownBlock _ with _ | q
            · exact .inl rfl
            · exact .inr (fun e => by have h1 := (hown.lt q hq).2; have h2 := Option.some.inj e; have := HGP.out; omega))
          have hvq : ∀ q, Value.ownBlock _ = some q → q < gp := fun q hq => by have h1 := (hown.lt q hq).2; have := HGP.out; omega
          have hplen := laid_len t j (by omega) (by omega)
          have hrt := hrd4.below hbW
          have htl8 : (le 8 m).length = 8 := le_len 8 m
          have HTL8 := Lib.hid htl8
          have HPL := Lib.hid hplen
          have hgpW : gp < wr.heap.size := (Array.getElem?_eq_some_iff.1 hrow).1
          clear hplen htl8 hrX6
          have hor : (decide ((j : Int) < 48) = false) ∨ (decide ((j : Int) < 48) = true ∧ decide ((i : Int) * 48 + (j : Int) < (l.length : Int) + 8) = false) := by
            rcases Nat.lt_or_ge j 48 with h | h
            · exact .inr ⟨by simp; omega, by simp; have := HK.out; omega⟩
            · exact .inl (by simp; omega)
          rcases hor with q1 | ⟨q1, q2⟩
          · go_wp2_with (first
              | (go_at_call 25; refine (turned_any A4 8 c4 (le 8 m) _ (hrt.more hzW) (by omega)).mono ?_; rintro e w6 ⟨v6, rfl, hown6, hb6⟩
                 obtain ⟨A6, c6, rfl⟩ := ownsRow_form hown6
                 have hr6 := ownsRow_rd hown6
                 have hownA := ownsRow_below hownW hb6
                 have hb46 := hbW.trans (hb6.mono hzW)
                 have hrow6 := row_below hrow hb6)
              | (at_builtin; first
                  | (have hx3 := hownC; refine wpL_app (m := 8) (y := .slice A4 8 c4) rfl (.tmp 64) (.tmp 65) _ _ rfl E_u8 rfl rfl hownC ((hrd4.below hb48).src Try.underlying23 (u8s_one _)) (by unfold maxLen; omega) (by omega) hb48.size ?_; intro v9 w9 hown9 hg9 hat9
                     have hb49 := hb48.grown hg9 hb48.size (fun q e => (hownC.lt q e).1))
                  | (have hx2 := hownB; refine wpL_app (m := 48) (y := .slice (some ⟨gp, 0, none⟩) 48 48) rfl (.tmp 61) (.tmp 62) _ _ rfl E_u8 rfl rfl hownB ((row_rd hrow7 HPL.out (by unfold maxLen; omega)).src Try.underlying23 (u8s_one _)) (by unfold maxLen; omega) (by omega) hb47.size ?_; intro v8 w8 hownC hg8 hat8
                     have hb48 := hb47.grown hg8 hb47.size (fun q e => (hownB.lt q e).1)
                     rw [← u8s_app] at hownC)
                  | (refine wpL_app (m := 8) (y := .slice A6 8 c6) rfl (.tmp 57) (.tmp 59) _ _ rfl E_u8 rfl rfl hownA (hr6.src Try.underlying23 (u8s_one _)) (by unfold maxLen; omega) (by omega) hb46.size ?_; intro v7 w7 hownB hg7 hat7
                     have hb47 := hb46.grown hg7 hb46.size (fun q e => (hownA.lt q e).1)
                     rw [← u8s_app] at hownB
                     have hrow7 := row_far hrow6 hg7 (fun e => by have := hvq gp e.symm; omega)))
              | fail)
            go_roundw
            case rel =>
              refine ⟨i + 1, by omega, by go_num, ?_, hb49⟩
              rw [HS1.out, show 64 * (i + 1) = 64 * i + 8 + 48 + 8 from by omega, u8s_app]
              exact hown9
            case measure => simp [intOf]; omega
          · go_wp2_with (first
              | (go_at_call 25; refine (turned_any A4 8 c4 (le 8 m) _ (hrt.more hzW) (by omega)).mono ?_; rintro e w6 ⟨v6, rfl, hown6, hb6⟩
                 obtain ⟨A6, c6, rfl⟩ := ownsRow_form hown6
                 have hr6 := ownsRow_rd hown6
                 have hownA := ownsRow_below hownW hb6
                 have hb46 := hbW.trans (hb6.mono hzW)
                 have hrow6 := row_below hrow hb6)
              | (at_builtin; first
                  | (have hx3 := hownC; refine wpL_app (m := 8) (y := .slice A4 8 c4) rfl (.tmp 64) (.tmp 65) _ _ rfl E_u8 rfl rfl hownC ((hrd4.below hb48).src Try.underlying23 (u8s_one _)) (by unfold maxLen; omega) (by omega) hb48.size ?_; intro v9 w9 hown9 hg9 hat9
                     have hb49 := hb48.grown hg9 hb48.size (fun q e => (hownC.lt q e).1))
                  | (have hx2 := hownB; refine wpL_app (m := 48) (y := .slice (some ⟨gp, 0, none⟩) 48 48) rfl (.tmp 61) (.tmp 62) _ _ rfl E_u8 rfl rfl hownB ((row_rd hrow7 HPL.out (by unfold maxLen; omega)).src Try.underlying23 (u8s_one _)) (by unfold maxLen; omega) (by omega) hb47.size ?_; intro v8 w8 hownC hg8 hat8
                     have hb48 := hb47.grown hg8 hb47.size (fun q e => (hownB.lt q e).1)
                     rw [← u8s_app] at hownC)
                  | (refine wpL_app (m := 8) (y := .slice A6 8 c6) rfl (.tmp 57) (.tmp 59) _ _ rfl E_u8 rfl rfl hownA (hr6.src Try.underlying23 (u8s_one _)) (by unfold maxLen; omega) (by omega) hb46.size ?_; intro v7 w7 hownB hg7 hat7
                     have hb47 := hb46.grown hg7 hb46.size (fun q e => (hownA.lt q e).1)
                     rw [← u8s_app] at hownB
                     have hrow7 := row_far hrow6 hg7 (fun e => by have := hvq gp e.symm; omega)))
              | fail)
            go_roundw
            case rel =>
              refine ⟨i + 1, by omega, by go_num, ?_, hb49⟩
              rw [HS1.out, show 64 * (i + 1) = 64 * i + 8 + 48 + 8 from by omega, u8s_app]
              exact hown9
            case measure => simp [intOf]; omega
    · obtain rfl : i = k := by omega
      go_wp2_with (go_at_call 11; refine (HS.out _).mono ?_; rintro e w0 ⟨rfl, rfl⟩)
      go_ret2
      exact ⟨u8, rfl, ownsRow_low hown hb04.size, hb04.trans (hb.mono hb04.size)⟩

theorem rmake_zero (A : Option Addr) (n c : Nat) (w : World) :
    Calls Try.prog 9 #[.int .u64 0, .slice A n c] w fun e w' => e = .returned (.tuple #[.slice none 0 0, .int .i64 2]) ∧ w = w' := by
  go_enter Try.func9, Try.ntmps9
  go_wp2
  go_ret2
  exact ⟨rfl, rfl⟩
theorem rmake_long (m : Nat) (A : Option Addr) (n c : Nat) (w : World) (hm : 0 < m) (hn : 65536 < n) :
    Calls Try.prog 9 #[.int .u64 (m : Int), .slice A n c] w fun e w' => e = .returned (.tuple #[.slice none 0 0, .int .i64 11]) ∧ w = w' := by
  have q0 : ((m : Int) == 0) = false := by simp; omega
  have d1 : decide ((65536 : Int) < (n : Int)) = true := by simp; omega
  clear hm hn
  go_enter Try.func9, Try.ntmps9
  go_wp2
  go_ret2
  exact ⟨rfl, rfl⟩

end Go.Proofs.Ytccfiblkgngecaa
