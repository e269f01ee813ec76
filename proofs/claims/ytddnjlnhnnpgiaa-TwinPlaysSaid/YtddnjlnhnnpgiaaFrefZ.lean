/- The document's own Make (keelsonref05). The document's own Make (keelsonref05): the whole. The document's own numbers at the ends of sectors (keelsonref05). -/
import Derived.Test.YtddnjlnhnnpgiaaFpureZ
import Derived.Test.YtddnjlnhnnpgiaaRefbZ
import Derived.Test.YtddnjlnhnnpgiaaFjoinbZ
import Derived.Test.YtddnjlnhnnpgiaaSegsZ
namespace Go.Proofs.Ytddnjlnhnnpgiaa
set_option maxRecDepth 20000
open Go.RowKit

theorem rev_take (l : List UInt8) (j : Nat) (x : UInt8) (h : l[l.length - 1 - j]? = some x) (hj : j < l.length) : l.reverse.take (j + 1) = l.reverse.take j ++ [x] := by
  have h1 : j < l.reverse.length := by rw [List.length_reverse]; exact hj
  rw [List.take_succ_eq_append_getElem h1]
  congr 2
  rw [List.getElem_reverse]
  obtain ⟨_, h2⟩ := List.getElem?_eq_some_iff.1 h
  exact h2
set_option maxRecDepth 8000 in
theorem turned_any (A : Option Addr) (n c : Nat) (l : List UInt8) (w : World) (h : Rd w w.heap.size 1 A n c (u8s l)) (hn : n ≤ 1000) :
    Calls Try.prog 59 #[.slice A n c] w fun e w' => ∃ v, e = .returned v ∧ w'.ownsRow w.heap.size 5 1 v n (u8s l.reverse) ∧ Below w.heap.size w w' := by
  have hln : l.length = n := by have := h.len; rwa [u8s_len] at this
  have HLN := Lib.hid hln
  clear hln
  have hni : (n : Int) ≤ 1000 := by omega
  go_enter Try.func59, Try.ntmps59
  go_wp2
  go_loopw [3, 4] (fun vr ir wr => ∃ j : Nat, j ≤ n ∧ ir = .int .i64 ((n : Int) - 1 - (j : Int)) ∧ wr.ownsRow w.heap.size 5 1 vr j (u8s (l.reverse.take j)) ∧ Below w.heap.size w wr) (fun _ ir _ => (intOf ir + 1).toNat)
  case atStart => exact ⟨0, Nat.zero_le _, by simp, World.ownsRow_nil _ _ _ _, Below.refl _ _⟩
  case round =>
    obtain ⟨j, hj, rfl, hown, hb⟩ := hrel
    have hz := hb.size
    by_cases hlt : j < n
    · obtain ⟨b, o, u, rfl, hbl, hu, hc⟩ := (h.below hb).at_ (k := n - 1 - j) (by omega)
      obtain ⟨x, hx, rfl⟩ := u8s_get _ _ _ hu
      obtain ⟨i, hi⟩ : ∃ i : Nat, i = n - 1 - j := ⟨_, rfl⟩
      have hii : (n : Int) - 1 - (j : Int) = (i : Int) := by omega
      rw [← hi] at hc hx
      rw [hii]
      have hin : (i : Int) < (n : Int) := by omega
      have HX := Lib.hid hx
      have HI := Lib.hid hi
      have hx0 : (0 : Int) ≤ (x.toNat : Int) := by omega
      clear hu hx hi hii
      go_wp2_with (at_builtin; refine wpL_app rfl _ _ _ _ rfl E_u8 rfl rfl (hown.alloc _) (Src.lit Try.underlying38 _ rfl (by intro u hu; simp at hu; subst hu; rfl)) (by unfold maxLen; omega) (by omega) (by simp; omega) ?_; intro v2 w2 hown2 hg2 hat2)
      go_roundw
      case rel =>
        refine ⟨j + 1, by omega, by have := HI.out; go_num, ?_, (hb.alloc hz _).grown hg2 (by simp; omega) (fun k e => (hown.lt k e).1)⟩
        rw [rev_take l j x (by rw [HLN.out, ← HI.out]; exact HX.out) (by rw [HLN.out]; exact hlt), u8s_app]
        exact hown2
      case measure => first | (simp [intOf]; done) | (simp [intOf]; omega)
    · obtain rfl : j = n := by omega
      have hneg : (j : Int) - 1 - (j : Int) = -1 := by omega
      rw [hneg]
      rw [List.take_of_length_le (by rw [List.length_reverse, HLN.out]; exact Nat.le_refl _)] at hown
      go_wp2
      go_ret
      exact ⟨_, rfl, hown, hb⟩

/-- A piece of which k bytes are laid. -/
def laid (t : List UInt8) (k : Nat) : List UInt8 := t.take k ++ List.replicate (48 - k) 0
theorem laid_put (t : List UInt8) (k : Nat) (x : UInt8) (hk : k < 48) (h : t[k]? = some x) : (u8s (laid t k)).toArray.setIfInBounds k (u8 x) = (u8s (laid t (k + 1))).toArray := by
  obtain ⟨hl, rfl⟩ := List.getElem?_eq_some_iff.1 h
  apply Array.ext'
  rw [Array.toList_setIfInBounds]
  have e1 : (t.take k).length = k := by rw [List.length_take]; omega
  have e2 : laid t k = t.take k ++ 0 :: List.replicate (48 - (k + 1)) 0 := by
    rw [laid, show 48 - k = 48 - (k + 1) + 1 from by omega, List.replicate_succ]
  have e3 : laid t (k + 1) = t.take k ++ t[k] :: List.replicate (48 - (k + 1)) 0 := by
    rw [laid, List.take_succ_eq_append_getElem hl, List.append_assoc]
    rfl
  rw [e2, e3]
  simp only [u8s, List.map_append, List.map_cons]
  rw [List.set_append, if_neg (by rw [List.length_map, e1]; omega), List.length_map, e1, Nat.sub_self]
  rfl
theorem laid_zero (t : List UInt8) : laid t 0 = List.replicate 48 0 := by simp [laid]
theorem laid_end (x : List UInt8) (k i K : Nat) (hx : x.length ≤ k * 48) (hi : i < k) (hK : K = min 48 (x.length - 48 * i)) : laid (x.drop (48 * i)) K = ((x ++ List.replicate (k * 48 - x.length) 0).drop (48 * i)).take 48 := by
  rcases Nat.lt_or_ge (48 * i) x.length with h | h
  · rw [List.drop_append_of_le_length (by omega)]
    rcases Nat.lt_or_ge (x.length - 48 * i) 48 with h2 | h2
    · have hl : (x.drop (48 * i)).length = K := by rw [List.length_drop]; omega
      rw [laid, List.take_of_length_le (by omega), List.take_append, List.take_of_length_le (by omega), List.take_replicate, hl]
      congr 2
      omega
    · obtain rfl : K = 48 := by omega
      rw [List.take_append_of_le_length (by rw [List.length_drop]; omega), laid]
      simp
  · obtain rfl : K = 0 := by omega
    rw [laid_zero, List.drop_append, List.drop_of_length_le (by omega), List.nil_append, List.drop_replicate, List.take_replicate]
    congr 1
    omega

end Go.Proofs.Ytddnjlnhnnpgiaa

namespace Go.Proofs.Ytddnjlnhnnpgiaa
set_option maxRecDepth 20000
open Go.RowKit

def Z48 : List UInt8 := List.replicate 48 0
theorem ownsRow_whole {w : World} {base n g : Nat} {e : TypeId} {xs : List Value} (h : w.ownsRow base e 1 (.slice (some ⟨g, 0, none⟩) n n) n xs) : w.heap[g]? = some (.cells xs.toArray e (0, 0)) := by
  obtain ⟨hl, h2⟩ := h
  rcases h2 with ⟨hv, _⟩ | ⟨g', cap, cur, hv, _, hg, _, _, hcs, htake⟩
  · cases hv
  · cases hv
    rw [hg]
    have e : cur.toList = xs := by
      rw [← htake]
      exact (List.take_of_length_le (by rw [Array.length_toList]; omega)).symm
    rw [← e]
theorem row_rd {w : World} {g n : Nat} {e : TypeId} {xs : List UInt8} (h : w.heap[g]? = some (.cells (u8s xs).toArray e (0, 0))) (hn : xs.length = n) (hm : n ≤ maxLen) : Rd w w.heap.size 1 (some ⟨g, 0, none⟩) n n (u8s xs) :=
  ⟨Nat.le_refl _, hm, by rw [u8s_len]; omega, fun _ => ⟨g, 0, rfl, (Array.getElem?_eq_some_iff.1 h).1, fun j u hu => by
    rw [cell_of_row w g (0 + j) _ e (0, 0) h]
    simpa using hu⟩⟩
theorem laid_len (t : List UInt8) (k : Nat) (hk : k ≤ 48) (ht : k ≤ t.length) : (laid t k).length = 48 := by
  rw [laid, List.length_append, List.length_take, List.length_replicate]; omega

set_option maxHeartbeats 8000000 in
set_option maxRecDepth 8000 in
theorem rmake_good (m : Nat) (A : Option Addr) (n c : Nat) (l : List UInt8) (w : World) (h : Rd w w.heap.size 1 A n c (u8s l)) (hn : n ≤ 65536) (hm0 : 0 < m) (hm : m < 18446744073709551616) :
    Calls Try.prog 35 #[.int .u64 (m : Int), .slice A n c] w fun e w' => ∃ v, e = .returned (.tuple #[v, .int .i64 0]) ∧ w'.ownsRow w.heap.size 5 1 v (64 * sectorsOf l.length) (u8s (makeOf m l)) ∧ Below w.heap.size w w' := by
  have hln : l.length = n := by have := h.len; rwa [u8s_len] at this
  subst hln
  obtain ⟨k, hk⟩ : ∃ k, k = sectorsOf (l.length : Int) := ⟨_, rfl⟩
  have hk1 : l.length + 8 ≤ k * 48 := by rw [hk, sectorsOf_at _ hn]; omega
  have hk2 : k ≤ 2000 := by rw [hk, sectorsOf_at _ hn]; omega
  have hS := fun w => rsectors_any (l.length : Int) w (by simp [Lit.wf, IntKind.min, IntKind.max, IntKind.signed, IntKind.bits]; omega)
  rw [← hk] at hS
  unfold makeOf
  rw [← hk]
  obtain ⟨X, hX⟩ : ∃ X, X = sealOf (le 4 l.length ++ l) := ⟨_, rfl⟩
  have hXl : X.length = l.length + 8 := by rw [hX, sealOf_len, List.length_append, le_len]; omega
  obtain ⟨body, hbd⟩ : ∃ b, b = bodyOf l k := ⟨_, rfl⟩
  have hbody : body = X ++ List.replicate (k * 48 - X.length) 0 := by rw [hbd]; unfold bodyOf; rw [← hX, hXl]
  rw [← hbd]
  have HS := Lib.hid hS
  have HM := Lib.hid hm
  have HK1 := Lib.hid hk1
  have HX := Lib.hid hX
  have HXL := Lib.hid hXl
  have HB := Lib.hid hbody
  have hki : (k : Int) ≤ 2000 := by omega
  have q0 : ((m : Int) == 0) = false := by simp; omega
  have d1 : decide ((65536 : Int) < (l.length : Int)) = false := by simp; omega
  have HL : Hid (l.length < 18446744073709551616) := Lib.hid (by omega)
  have hn6 : l.length ≤ 70000 := by omega
  have hmake : ∀ w, (Instr.makeSlice 38 (.int .i64 48) (.int .i64 48)).run Try.prog w = .ok (.slice (some ⟨w.heap.size, 0, none⟩) 48 48) (w.alloc (.cells (u8s Z48).toArray 5)) := fun _ => by kernel_rfl
  clear hS hm hk hk1 hX hXl hbd hbody hm0 hn
  go_enter Try.func35, Try.ntmps35
  go_wp2_with (first
    | (go_at_call 58; first
        | (have hx3 := hown3; refine (rput_good none 0 0 [] 8 m _ Rd.nil_ (by omega) (by omega) (by omega) HM).mono ?_; rintro e w4 ⟨v4, rfl, hown4, hb4⟩
           rw [List.nil_append] at hown4
           have hb04 := hb03.trans (hb4.mono hb03.size)
           obtain ⟨A4, c4, rfl⟩ := ownsRow_form hown4
           have hrd4 := ownsRow_rd hown4
           have hrX := ((ownsRow_rd hown3).below hb4).more hb4.size)
        | (refine (rput_good none 0 0 [] 4 l.length _ Rd.nil_ (by omega) (by omega) (by omega) HL).mono ?_; rintro e w1 ⟨v1, rfl, hown1, hb1⟩
           rw [List.nil_append] at hown1))
    | (at_builtin; refine wpL_app (m := l.length) (y := .slice A l.length c) rfl (.tmp 20) (.tmp 21) _ _ rfl E_u8 rfl rfl hown1 ((h.below hb1).src Try.underlying38 (u8s_one l)) (by unfold maxLen; omega) (by omega) hb1.size ?_; intro v2 w2 hown2 hg2 hat2
       have hb02 := hb1.grown hg2 hb1.size (fun j e => (hown1.lt j e).1)
       obtain ⟨A2, c2, rfl⟩ := ownsRow_form hown2
       have hrd2 := ownsRow_rd hown2
       rw [← u8s_app] at hrd2)
    | (go_at_call 57; refine (rseal_any _ _ _ _ _ hrd2 (by omega)).mono ?_; rintro e w3 ⟨v3, rfl, hown3, hb3⟩
       rw [← HX.out, show 0 + 4 + l.length + 4 = l.length + 8 from by omega] at hown3
       obtain ⟨A3, c3, rfl⟩ := ownsRow_form hown3
       have hb03 := hb02.trans (hb3.mono hb02.size))
    | fail)
  have hown0 : w4.ownsRow w4.heap.size 5 1 (.slice none 0 0) 0 [] := World.ownsRow_nil _ _ _ _
  clear hown1 hown2 hown3 hown4 hrd2
  go_loopw [8, 9] (fun vr ir wr => ∃ i : Nat, i ≤ k ∧ ir = .int .i64 (i : Int) ∧ wr.ownsRow w4.heap.size 5 1 vr (64 * i) (u8s (secs m body i)) ∧ Below w4.heap.size w4 wr) (fun _ ir _ => k - (intOf ir).toNat)
  case atStart => exact ⟨0, Nat.zero_le _, rfl, hown0, Below.refl _ _⟩
  case round =>
    obtain ⟨i, hi, rfl, hown, hb⟩ := hrel
    by_cases hik : i < k
    · obtain ⟨K, hK⟩ : ∃ K, K = min 48 (X.length - 48 * i) := ⟨_, rfl⟩
      obtain ⟨t, ht⟩ : ∃ t, t = X.drop (48 * i) := ⟨_, rfl⟩
      have htl : t.length = X.length - 48 * i := by rw [ht, List.length_drop]
      have hXk := HXL.out
      have hK48 : K ≤ 48 := by omega
      have hKt : K ≤ t.length := by omega
      have hend : laid t K = (body.drop (48 * i)).take 48 := by
        rw [ht, HB.out]
        exact laid_end X k i K (by have := HK1.out; omega) hik hK
      have hs1 : secs m body (i + 1) = secs m body i ++ headB m ++ laid t K ++ le 8 m := by
        rw [hend]
        simp only [secs, sec, List.append_assoc]
      have HS1 := Lib.hid hs1
      have HT := Lib.hid ht
      have HK := Lib.hid hK
      have HTL := Lib.hid htl
      clear hs1 hend ht hK htl
      have hz4 := hb.size
      go_wp2_with (first
        | (go_at_call 54; refine (HS.out _).mono ?_; rintro e w0 ⟨rfl, rfl⟩)
        | fail)
      obtain ⟨wo, rfl⟩ : ∃ wo : World, wo = wr := ⟨_, rfl⟩
      obtain ⟨w5, hw5⟩ : ∃ w5, w5 = wo.alloc (.cells (u8s Z48).toArray 5) := ⟨_, rfl⟩
      rw [← hw5]
      have hp5 : w5.heap[wo.heap.size]? = some (.cells (u8s (laid t 0)).toArray 5 (0, 0)) := by rw [hw5, laid_zero]; exact heap_alloc_new wo _
      have hb5 : Below wo.heap.size wo w5 := by rw [hw5]; exact (Below.refl _ _).alloc (Nat.le_refl _) _
      have hz5 : w5.heap.size = wo.heap.size + 1 := by rw [hw5]; simp
      have hown5 := ownsRow_below hown hb5
      have hb45 : Below w4.heap.size w4 w5 := hb.trans (hb5.mono hz4)
      have hrX5 := (hrX.below hb45)
      have hrt5 := (hrd4.below hb45)
      have HZ5 := Lib.hid hz5
      obtain ⟨gp, hgp⟩ : ∃ gp, gp = wo.heap.size := ⟨_, rfl⟩
      rw [← hgp] at hp5
      rw [← hgp]
      have HGP := Lib.hid hgp
      clear hw5 hz5 hgp
      go_loopw [11] (fun kr wr2 => ∃ j : Nat, j ≤ K ∧ kr = .int .i64 (j : Int) ∧ wr2.heap[gp]? = some (.cells (u8s (laid t j)).toArray 5 (0, 0)) ∧ w5.grownBy wr2 (some gp)) (fun kr _ => K - (intOf kr).toNat)
      case atStart => exact ⟨0, Nat.zero_le _, rfl, hp5, World.grownBy.refl _ _⟩
      case round =>
        obtain ⟨j, hj, rfl, hrow, hg⟩ := hrel
        have hgp4 : w4.heap.size ≤ gp := by rw [HGP.out]; exact hz4
        have hrX6 := hrX5.keep (w' := wr) (fun b o hb => World.cell?_of_block (a := ⟨b, o, none⟩) (hg.block b (by have := hb45.size; omega) (fun e => by have := Option.some.inj e; omega)))
        by_cases hjK : j < K
        · obtain ⟨b, o, u, rfl, hbl, hu, hc⟩ := hrX6.at_ (k := i * 48 + j) (by have := HK.out; omega)
          obtain ⟨x, hx, rfl⟩ := u8s_get _ _ _ hu
          have hx2 : t[j]? = some x := by rw [HT.out, List.getElem?_drop, show 48 * i + j = i * 48 + j from by omega]; exact hx
          have hput : (u8s (laid t j)).toArray.setIfInBounds j (.int .u8 (x.toNat : Int)) = (u8s (laid t (j + 1))).toArray := laid_put t j x (by omega) hx2
          have cP : wr.cell? ⟨gp, j, none⟩ = some ((u8s (laid t j)).getD j (.int .u8 0)) := by
            rw [cell_of_row wr gp j _ _ _ hrow]
            have hl := laid_len t j (by omega) (by omega)
            simp [List.getD, u8s_len, hl, show j < 48 from by omega]
          have fP := frozen_of_row wr gp j _ _ hrow
          have hnew : (wr.setCell ⟨gp, j, none⟩ (.int .u8 (x.toNat : Int))).heap[gp]? = some (.cells (u8s (laid t (j + 1))).toArray 5 (0, 0)) := by
            rw [heap_setCell_same wr gp j _ _ _ hrow, hput]
          have HN := Lib.hid hnew
          have HU := Lib.hid hu
          have j48 : decide ((j : Int) < 48) = true := by simp; omega
          have hiX : (i : Int) * 48 + (j : Int) < ((l.length + 8 : Nat) : Int) := by have := HK.out; omega
          have hix : (i : Int) ≤ 2000 := by omega
          have hj48 : (j : Int) < 48 := by omega
          have hidx : ((i : Int) * 48 + (j : Int)).toNat = i * 48 + j := by omega
          have hx0 : (0 : Int) ≤ (x.toNat : Int) := by omega
          clear hu hx hx2 hput hnew
          go_wp2
          go_roundw
          case rel => exact ⟨j + 1, by omega, by go_num, HN.out, setCell_by hg (p := ⟨gp, j, none⟩) rfl _⟩
          case measure => simp [intOf]; omega
        · obtain rfl : j = K := by omega
          have hbW : Below w4.heap.size w4 wr := hb45.grown hg hb45.size (fun q e => by have := Option.some.inj e; omega)
          have hzW := hbW.size
          have hownW := hown5.kept hg (by
            rcases hq : Value.ownBlock _ with _ | q
            · exact .inl rfl
            · exact .inr (fun e => by have h1 := (hown.lt q hq).2; have h2 := Option.some.inj e; have := HGP.out; omega))
          have hvq : ∀ q, Value.ownBlock _ = some q → q < gp := fun q hq => by have h1 := (hown.lt q hq).2; have := HGP.out; omega
          have hplen := laid_len t j (by omega) (by omega)
          have hrt := hrd4.below hbW
          have htl8 : (le 8 m).length = 8 := le_len 8 m
          have HTL8 := Lib.hid htl8
          have HPL := Lib.hid hplen
          have hgpW : gp < wr.heap.size := (Array.getElem?_eq_some_iff.1 hrow).1
          clear hplen htl8 hrX6
          have hor : (decide ((j : Int) < 48) = false) ∨ (decide ((j : Int) < 48) = true ∧ decide ((i : Int) * 48 + (j : Int) < (l.length : Int) + 8) = false) := by
            rcases Nat.lt_or_ge j 48 with h | h
            · exact .inr ⟨by simp; omega, by simp; have := HK.out; omega⟩
            · exact .inl (by simp; omega)
          rcases hor with q1 | ⟨q1, q2⟩
          · go_wp2_with (first
              | (go_at_call 59; refine (turned_any A4 8 c4 (le 8 m) _ (hrt.more hzW) (by omega)).mono ?_; rintro e w6 ⟨v6, rfl, hown6, hb6⟩
                 obtain ⟨A6, c6, rfl⟩ := ownsRow_form hown6
                 have hr6 := ownsRow_rd hown6
                 have hownA := ownsRow_below hownW hb6
                 have hb46 := hbW.trans (hb6.mono hzW)
                 have hrow6 := row_below hrow hb6)
              | (at_builtin; first
                  | (have hx3 := hownC; refine wpL_app (m := 8) (y := .slice A4 8 c4) rfl (.tmp 64) (.tmp 65) _ _ rfl E_u8 rfl rfl hownC ((hrd4.below hb48).src Try.underlying38 (u8s_one _)) (by unfold maxLen; omega) (by omega) hb48.size ?_; intro v9 w9 hown9 hg9 hat9
                     have hb49 := hb48.grown hg9 hb48.size (fun q e => (hownC.lt q e).1))
                  | (have hx2 := hownB; refine wpL_app (m := 48) (y := .slice (some ⟨gp, 0, none⟩) 48 48) rfl (.tmp 61) (.tmp 62) _ _ rfl E_u8 rfl rfl hownB ((row_rd hrow7 HPL.out (by unfold maxLen; omega)).src Try.underlying38 (u8s_one _)) (by unfold maxLen; omega) (by omega) hb47.size ?_; intro v8 w8 hownC hg8 hat8
                     have hb48 := hb47.grown hg8 hb47.size (fun q e => (hownB.lt q e).1)
                     rw [← u8s_app] at hownC)
                  | (refine wpL_app (m := 8) (y := .slice A6 8 c6) rfl (.tmp 57) (.tmp 59) _ _ rfl E_u8 rfl rfl hownA (hr6.src Try.underlying38 (u8s_one _)) (by unfold maxLen; omega) (by omega) hb46.size ?_; intro v7 w7 hownB hg7 hat7
                     have hb47 := hb46.grown hg7 hb46.size (fun q e => (hownA.lt q e).1)
                     rw [← u8s_app] at hownB
                     have hrow7 := row_far hrow6 hg7 (fun e => by have := hvq gp e.symm; omega)))
              | fail)
            go_roundw
            case rel =>
              refine ⟨i + 1, by omega, by go_num, ?_, hb49⟩
              rw [HS1.out, show 64 * (i + 1) = 64 * i + 8 + 48 + 8 from by omega, u8s_app]
              exact hown9
            case measure => simp [intOf]; omega
          · go_wp2_with (first
              | (go_at_call 59; refine (turned_any A4 8 c4 (le 8 m) _ (hrt.more hzW) (by omega)).mono ?_; rintro e w6 ⟨v6, rfl, hown6, hb6⟩
                 obtain ⟨A6, c6, rfl⟩ := ownsRow_form hown6
                 have hr6 := ownsRow_rd hown6
                 have hownA := ownsRow_below hownW hb6
                 have hb46 := hbW.trans (hb6.mono hzW)
                 have hrow6 := row_below hrow hb6)
              | (at_builtin; first
                  | (have hx3 := hownC; refine wpL_app (m := 8) (y := .slice A4 8 c4) rfl (.tmp 64) (.tmp 65) _ _ rfl E_u8 rfl rfl hownC ((hrd4.below hb48).src Try.underlying38 (u8s_one _)) (by unfold maxLen; omega) (by omega) hb48.size ?_; intro v9 w9 hown9 hg9 hat9
                     have hb49 := hb48.grown hg9 hb48.size (fun q e => (hownC.lt q e).1))
                  | (have hx2 := hownB; refine wpL_app (m := 48) (y := .slice (some ⟨gp, 0, none⟩) 48 48) rfl (.tmp 61) (.tmp 62) _ _ rfl E_u8 rfl rfl hownB ((row_rd hrow7 HPL.out (by unfold maxLen; omega)).src Try.underlying38 (u8s_one _)) (by unfold maxLen; omega) (by omega) hb47.size ?_; intro v8 w8 hownC hg8 hat8
                     have hb48 := hb47.grown hg8 hb47.size (fun q e => (hownB.lt q e).1)
                     rw [← u8s_app] at hownC)
                  | (refine wpL_app (m := 8) (y := .slice A6 8 c6) rfl (.tmp 57) (.tmp 59) _ _ rfl E_u8 rfl rfl hownA (hr6.src Try.underlying38 (u8s_one _)) (by unfold maxLen; omega) (by omega) hb46.size ?_; intro v7 w7 hownB hg7 hat7
                     have hb47 := hb46.grown hg7 hb46.size (fun q e => (hownA.lt q e).1)
                     rw [← u8s_app] at hownB
                     have hrow7 := row_far hrow6 hg7 (fun e => by have := hvq gp e.symm; omega)))
              | fail)
            go_roundw
            case rel =>
              refine ⟨i + 1, by omega, by go_num, ?_, hb49⟩
              rw [HS1.out, show 64 * (i + 1) = 64 * i + 8 + 48 + 8 from by omega, u8s_app]
              exact hown9
            case measure => simp [intOf]; omega
    · obtain rfl : i = k := by omega
      go_wp2_with (go_at_call 54; refine (HS.out _).mono ?_; rintro e w0 ⟨rfl, rfl⟩)
      go_ret2
      exact ⟨u8, rfl, ownsRow_low hown hb04.size, hb04.trans (hb.mono hb04.size)⟩

theorem rmake_zero (A : Option Addr) (n c : Nat) (w : World) :
    Calls Try.prog 35 #[.int .u64 0, .slice A n c] w fun e w' => e = .returned (.tuple #[.slice none 0 0, .int .i64 2]) ∧ w = w' := by
  go_enter Try.func35, Try.ntmps35
  go_wp2
  go_ret2
  exact ⟨rfl, rfl⟩
theorem rmake_long (m : Nat) (A : Option Addr) (n c : Nat) (w : World) (hm : 0 < m) (hn : 65536 < n) :
    Calls Try.prog 35 #[.int .u64 (m : Int), .slice A n c] w fun e w' => e = .returned (.tuple #[.slice none 0 0, .int .i64 11]) ∧ w = w' := by
  have q0 : ((m : Int) == 0) = false := by simp; omega
  have d1 : decide ((65536 : Int) < (n : Int)) = true := by simp; omega
  clear hm hn
  go_enter Try.func35, Try.ntmps35
  go_wp2
  go_ret2
  exact ⟨rfl, rfl⟩

end Go.Proofs.Ytddnjlnhnnpgiaa

namespace Go.Proofs.Ytddnjlnhnnpgiaa
set_option maxRecDepth 20000
open Go.RowKit

theorem ref_num8 (t : List UInt8) (ht : t.length = 8) : ((refSt t 0 false).num 8).1 = unle t := by
  unfold refSt
  simp only [Bool.false_eq_true, if_false, List.drop_zero]
  rw [show St.num ⟨t, false⟩ 8 = (unle t, ⟨[], false⟩) from st_num t 8 (by omega) (by omega) ht]
theorem rnum8_any (A : Option Addr) (c : Nat) (t : List UInt8) (w : World) (h : Rd w w.heap.size 1 A 8 c (u8s t)) :
    Calls Try.prog 75 #[.slice A 8 c] w fun e w' => e = .returned (.int .u64 ((unle t : Nat) : Int)) ∧ Below w.heap.size w w' := by
  have htl : t.length = 8 := by have := h.len; rwa [u8s_len] at this
  have hN := fun (w1 : World) (hR : RefR w1 w.heap.size A 8 c 0 false) (hr : Rd w1 w.heap.size 1 A 8 c (u8s t)) => rnum_any w.heap.size w.heap.size 8 c 0 false A t 8 w1 hR hr (Nat.le_refl _) (by omega) (by omega) (by omega) (by omega)
  obtain ⟨q, hq⟩ : ∃ q, q = (refSt t 0 false).num 8 := ⟨_, rfl⟩
  have hq1 := ref_num8 t htl
  rw [← hq] at hq1 hN
  obtain ⟨q1, q2⟩ := q
  dsimp only at hq1
  subst hq1
  have HN := Lib.hid hN
  have hb0 : Below w.heap.size w (w.alloc (.cells #[.slice A 8 c, .int .i64 0, .bool false] 113)) := (Below.refl _ _).alloc (Nat.le_refl _) _
  have hR0 : RefR (w.alloc (.cells #[.slice A 8 c, .int .i64 0, .bool false] 113)) w.heap.size A 8 c 0 false := heap_alloc_new w _
  have HB := Lib.hid hb0
  have HR := Lib.hid hR0
  have HRd := Lib.hid (h.below hb0)
  clear hN hb0 hR0 hq htl
  go_enter Try.func75, Try.ntmps75
  go_wp2_with (go_at_call 53; refine (HN.out _ HR.out HRd.out).mono ?_; rintro e w1 ⟨a', b', rfl, hR1, ha1, hs1, hg1⟩)
  go_ret
  exact ⟨rfl, HB.out.grown hg1 (by simp) (fun k e => by have := Option.some.inj e; omega)⟩

set_option maxHeartbeats 1000000 in
set_option maxRecDepth 8000 in
theorem rends_any (A : Option Addr) (n c : Nat) (l : List UInt8) (w : World) (h : Rd w w.heap.size 1 A n c (u8s l)) (hn : n ≤ 1000000) :
    Calls Try.prog 52 #[.slice A n c] w fun e w' => e = .returned (.tuple #[.int .u64 ((headsOf l : Nat) : Int), .int .u64 ((tailsOf l : Nat) : Int)]) ∧ Below w.heap.size w w' := by
  have hln : l.length = n := by have := h.len; rwa [u8s_len] at this
  by_cases hs : n < 64
  · have e1 : headsOf l = 0 := by unfold headsOf; rw [if_pos (by omega)]
    have e2 : tailsOf l = 0 := by unfold tailsOf; rw [if_pos (by omega)]
    rw [e1, e2]
    have hi : (n : Int) < 64 := by omega
    clear e1 e2 hln hn
    go_enter Try.func52, Try.ntmps52
    go_wp2
    go_ret2
    exact ⟨rfl, Below.refl _ _⟩
  · have e1 : headsOf l = unle (l.take 8).reverse := by unfold headsOf; rw [if_neg (by omega)]; rfl
    have e2 : tailsOf l = unle ((l.drop 56).take 8) := by unfold tailsOf; rw [if_neg (by omega)]; rfl
    rw [e1, e2]
    obtain ⟨b, o, rfl, hb, hc⟩ := h.2.2.2 (by omega)
    have hnc := h.1
    have hd : decide ((n : Int) < 64) = false := by simp; omega
    have h1 := h.pre (k := 8) (by omega)
    rw [← u8s_take] at h1
    have h2 := h.cut (k := 56) (m := 8) (by omega)
    rw [← u8s_drop, ← u8s_take, Option.map_some, addOff] at h2
    have hn64 : 64 ≤ n := by omega
    have H1 := Lib.hid h1
    have H2 := Lib.hid h2
    clear e1 e2 hln hn h1 h2 hs hc
    generalize l.take 8 = t1 at *
    generalize (l.drop 56).take 8 = t2 at *
    have hmx : Try.prog.follows .mixedOrders = true := by kernel_rfl
    go_enter Try.func52, Try.ntmps52
    go_wp2
    refine wp_grow [([0, 1, 4, 5], 2), ([], 3), ([], 6)] [7, 8] (by kernel_rfl) (by kernel_rfl) (fun d _ _ _ _ h => by cases d <;> exact h) fun wd hbd => ?_
    have hzd := hbd.size
    intro f hf
    simp only [pickI, Option.toList_some, List.cons_append, List.nil_append, List.getElem?_toArray, List.getElem?_cons_succ, List.getElem?_cons_zero]
    repeat (go_big_quiet_step (fail))
    refine wpQuiet_nil ?_
    clear hf f
    refine seg_op (by simp only [List.getElem?_toArray, List.getElem?_cons_succ, List.getElem?_cons_zero]; rfl) fun K hK => ?_
    go_simp
    refine (turned_any _ _ _ t1 _ ((H1.out.below hbd).more hzd) (by omega)).mono ?_
    rintro e w1 ⟨v1, rfl, hown1, hb1⟩
    obtain ⟨A1, c1, rfl⟩ := ownsRow_form hown1
    have hr1 := ownsRow_rd hown1
    refine hK.out _ _ (seg_keep (hbd.trans (hb1.mono hzd)) ?_)
    clear hK K
    have hb01 := hbd.trans (hb1.mono hzd)
    intro f hf
    refine wpQuiet_nil ?_
    clear hf f
    refine seg_op (by simp only [List.getElem?_toArray, List.getElem?_cons_succ, List.getElem?_cons_zero]; rfl) fun K hK => ?_
    go_simp
    refine (rnum8_any _ _ t1.reverse _ hr1).mono ?_
    rintro e w2 ⟨rfl, hb2⟩
    have hb02 := hb01.trans (hb2.mono hb01.size)
    refine hK.out _ _ (seg_keep hb02 ?_)
    clear hK K
    intro f hf
    refine wpQuiet_nil ?_
    clear hf f
    refine seg_op (by simp only [List.getElem?_toArray, List.getElem?_cons_succ, List.getElem?_cons_zero]; rfl) fun K hK => ?_
    go_simp
    refine (rnum8_any _ _ t2 _ ((H2.out.below hb02).more hb02.size)).mono ?_
    rintro e w3 ⟨rfl, hb3⟩
    have hb03 := hb02.trans (hb3.mono hb02.size)
    refine hK.out _ _ (seg_keep hb03 ?_)
    clear hK K
    intro f hf
    simp only [pickI, Option.toList_some, List.cons_append, List.nil_append, List.getElem?_toArray, List.getElem?_cons_succ, List.getElem?_cons_zero]
    repeat (go_big_quiet_step (fail))
    refine wpQuiet_nil ?_
    clear hf f
    go_wp2
    go_ret2
    exact ⟨rfl, hb03⟩

/-- The greatest number at the ends of the sectors. -/
def mostOf (l : List UInt8) : Nat → Nat
  | 0 => 0
  | k + 1 => max (mostOf l k) (max (headsOf (sect l k)) (tailsOf (sect l k)))
theorem heads_take (l : List UInt8) (h : 64 ≤ l.length) : headsOf (l.take 64) = headsOf l ∧ tailsOf (l.take 64) = tailsOf l := by
  unfold headsOf tailsOf headOf tailOf
  rw [List.length_take, if_neg (by omega), if_neg (by omega), if_neg (by omega), if_neg (by omega), List.take_take, List.drop_take, List.take_take]
  exact ⟨rfl, rfl⟩
theorem mostOf_lt (l : List UInt8) (k : Nat) : mostOf l k < 18446744073709551616 := by
  induction k with
  | zero => exact (show (0 : Nat) < 18446744073709551616 by omega)
  | succ k ih =>
    have h1 := headsOf_lt (sect l k)
    have h2 := tailsOf_lt (sect l k)
    rw [mostOf]
    omega
set_option maxHeartbeats 1000000 in
set_option maxRecDepth 8000 in
theorem rmost_any (A : Option Addr) (n c : Nat) (l : List UInt8) (w : World) (h : Rd w w.heap.size 1 A n c (u8s l)) (hn : n ≤ 1000000) :
    Calls Try.prog 29 #[.slice A n c] w fun e w' => e = .returned (.int .u64 ((mostOf l (n / 64) : Nat) : Int)) ∧ Below w.heap.size w w' := by
  have hln : l.length = n := by have := h.len; rwa [u8s_len] at this
  have HLN := Lib.hid hln
  clear hln
  have hnc := h.1
  have hni : (n : Int) ≤ 1000000 := by omega
  go_enter Try.func29, Try.ntmps29
  go_wp2
  go_loopw [3, 4] (fun mr ir wr => ∃ i q : Nat, i ≤ n / 64 ∧ Hid (q = mostOf l i) ∧ ir = .int .i64 ((64 * i : Nat) : Int) ∧ mr = .int .u64 (q : Int) ∧ Below w.heap.size w wr) (fun _ ir _ => n / 64 - (intOf ir).toNat / 64)
  case atStart => exact ⟨0, 0, Nat.zero_le _, Lib.hid rfl, rfl, rfl, Below.refl _ _⟩
  case round =>
    obtain ⟨i, q, hi, hq, rfl, rfl, hb⟩ := hrel
    obtain ⟨j, hj⟩ : ∃ j, j = 64 * i := ⟨_, rfl⟩
    rw [← hj]
    by_cases hlt : i < n / 64
    · obtain ⟨b, o, rfl, hbl, hcell⟩ := h.2.2.2 (by omega)
      have hz := hb.size
      have hd : decide ((j : Int) + 64 ≤ (n : Int)) = true := by simp; omega
      have hjn : (j : Int) ≤ (n : Int) := by omega
      have hjc : (j : Int) ≤ (c : Int) := by omega
      have hne : j ≠ c := by omega
      have hcut := (h.below hb).cut (k := j) (m := n - j) (by omega)
      rw [← u8s_drop, ← u8s_take, Option.map_some, addOff, List.take_of_length_le (by rw [List.length_drop, HLN.out]; exact Nat.le_refl _)] at hcut
      have hE := rends_any _ _ _ _ wr (hcut.more hz) (by omega)
      have hh := heads_take (l.drop j) (by rw [List.length_drop, HLN.out]; omega)
      have hh1 : headsOf (sect l i) = headsOf (l.drop j) ∧ tailsOf (sect l i) = tailsOf (l.drop j) := by unfold sect; rw [← hj]; exact hh
      have hm : mostOf l (i + 1) = max q (max (headsOf (l.drop j)) (tailsOf (l.drop j))) := by rw [mostOf, hh1.1, hh1.2, hq.out]
      generalize headsOf (l.drop j) = a at *
      generalize tailsOf (l.drop j) = t at *
      obtain ⟨q2, hq2⟩ : ∃ q2, q2 = max q (max a t) := ⟨_, rfl⟩
      have e1 : (if (if (a : Int) < (t : Int) then (t : Int) else (a : Int)) < (q : Int) then (q : Int) else (if (a : Int) < (t : Int) then (t : Int) else (a : Int))) = (q2 : Int) := by split <;> split <;> omega
      have e2 : (max (q : Int) (max (a : Int) (t : Int))) = (q2 : Int) := by omega
      have e3 : (if (q : Int) < (if (a : Int) < (t : Int) then (t : Int) else (a : Int)) then (if (a : Int) < (t : Int) then (t : Int) else (a : Int)) else (q : Int)) = (q2 : Int) := by split <;> split <;> omega
      have HE := Lib.hid hE
      have HM := Lib.hid (hm.trans hq2.symm)
      have HJ := Lib.hid hj
      clear hE hm hq2 hh hh1 hj hcut hcell
      go_wp2_with (go_at_call 52; refine HE.out.mono ?_; rintro e w1 ⟨rfl, hb1⟩)
      go_roundw
      case rel =>
        refine ⟨i + 1, q2, by omega, Lib.hid HM.out.symm, by have := HJ.out; go_num, ?_, hb.trans (hb1.mono hz)⟩
        first | rfl | (rw [← e2]; rfl) | (rw [← e1]; rfl) | (rw [← e3]; rfl)
      case measure => simp [intOf]; have := HJ.out; omega
    · have hd : decide ((j : Int) + 64 ≤ (n : Int)) = false := by simp; omega
      have hji : (j : Int) ≤ 1000000 := by omega
      obtain rfl : i = n / 64 := by omega
      have HJ := Lib.hid hj
      have HQ := Lib.hid hq.out
      clear hj hi
      go_wp2
      go_ret
      rw [← HQ.out]
      exact ⟨rfl, hb⟩

end Go.Proofs.Ytddnjlnhnnpgiaa
