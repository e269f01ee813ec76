/- Contracts of the document's own Put, All and Text (keelsonref01). -/
import Derived.Test.YtacaonlahggdeaaDoorText
namespace Go.Proofs.YtacaonlahggdeaaDoor
open Go.RowKit

theorem le_snocq (i x q : Nat) (hq : q = x / 256 ^ i) : u8s (le i x) ++ [Value.int .u8 ((q : Int) % 256)] = u8s (le (i + 1) x) := by
  subst hq
  rw [← le_snoc']
  simp

theorem rput_good (A : Option Addr) (n c : Nat) (l : List UInt8) (k x : Nat) (w : World) (h : Rd w w.heap.size 1 A n c (u8s l)) (hn : n ≤ 1000000) (hk1 : 1 ≤ k) (hk : k ≤ 8) (hx : Hid (x < 18446744073709551616)) :
    Calls Tryd.prog 48 #[.slice A n c, .int .i64 (k : Int), .int .u64 (x : Int)] w fun e w' => ∃ v, e = .returned v ∧ w'.ownsRow w.heap.size 5 1 v (n + k) (u8s (l ++ le k x)) ∧ Below w.heap.size w w' := by
  have h8 : decide ((8 : Int) < (k : Int)) = false := by simp; omega
  go_enter Tryd.func48, Tryd.ntmps48
  go_wp2_with (at_builtin; refine wpL_app (xs := []) (n := 0) (v := .slice none 0 0) rfl _ _ _ _ rfl E_u8 rfl rfl (World.ownsRow_nil w w.heap.size _ _) (h.src Tryd.underlying62 (u8s_one l)) (by unfold maxLen; omega) (by omega) (Nat.le_refl _) ?_; intro v1 w1 hown1 hg1 hat1)
  have hb1 : Below w.heap.size w w1 := (Below.refl _ _).grown hg1 (Nat.le_refl _) (fun k hk => by simp [Value.ownBlock] at hk)
  rw [Nat.zero_add, List.nil_append] at hown1
  go_loopw [2, 7, 8] (fun xr vr ir wr => ∃ i q : Nat, i ≤ k ∧ Hid (q = x / 256 ^ i) ∧ ir = .int .i64 i ∧ xr = .int .u64 (q : Int) ∧ wr.ownsRow w.heap.size 5 1 vr (n + i) (u8s (l ++ le i x)) ∧ Below w.heap.size w wr) (fun _ _ ir _ => k - (intOf ir).toNat)
  case atStart => exact ⟨0, x, Nat.zero_le _, Lib.hid (by simp), rfl, rfl, by simpa [le] using hown1, hb1⟩
  case round =>
    obtain ⟨i, q, hi, hq, rfl, rfl, hown, hb⟩ := hrel
    have hz := hb.size
    by_cases hlt : i < k
    · go_wp2_with (at_builtin; refine wpL_app rfl _ _ _ _ rfl E_u8 rfl rfl (hown.alloc _) (Src.lit Tryd.underlying62 _ rfl (by intro u hu; simp at hu; subst hu; rfl)) (by unfold maxLen; omega) (by omega) (by simp; omega) ?_; intro v2 w2 hown2 hg2 hat2)
      go_roundw
      case rel =>
        refine ⟨i + 1, q / 256, by omega, Lib.hid ?_, by go_num, ?_, ?_, (hb.alloc hz _).grown hg2 (by simp; omega) (fun k e => (hown.lt k e).1)⟩
        · rw [hq.out, Nat.div_div_eq_div_mul, Nat.pow_succ]
        · have h1 := hx.out
          have h2 : q ≤ x := by rw [hq.out]; exact Nat.div_le_self _ _
          rw [IntKind.wrap_u64]
          refine congrArg _ ?_
          omega
        · rw [u8s_app, ← le_snocq _ _ _ hq.out, ← List.append_assoc, ← u8s_app]
          exact hown2
      case measure => simp [intOf]; omega
    · obtain rfl : i = k := by omega
      go_wp2
      go_ret
      exact ⟨_, rfl, hown, hb⟩

theorem rput_bad (A : Option Addr) (n c : Nat) (l : List UInt8) (W x : Int) (w : World) (h : Rd w w.heap.size 1 A n c (u8s l)) (hn : n ≤ 1000000) (hW : W < 1 ∨ 8 < W) :
    Calls Tryd.prog 48 #[.slice A n c, .int .i64 W, .int .u64 x] w fun e w' => ∃ v, e = .returned v ∧ w'.ownsRow w.heap.size 5 1 v n (u8s l) ∧ Below w.heap.size w w' := by
  have hfin : ∀ w1 v1, w1.ownsRow w.heap.size 5 1 v1 (0 + n) ([] ++ u8s l) → w.grownBy w1 (Value.ownBlock (.slice none 0 0)) → w1.ownsRow w.heap.size 5 1 v1 n (u8s l) ∧ Below w.heap.size w w1 := by
    intro w1 v1 hown1 hg1
    rw [Nat.zero_add, List.nil_append] at hown1
    exact ⟨hown1, (Below.refl _ _).grown hg1 (Nat.le_refl _) (fun k hk => by simp [Value.ownBlock] at hk)⟩
  have H := Lib.hid hfin
  clear hfin
  rcases hW with hW | hW
  · go_enter Tryd.func48, Tryd.ntmps48
    go_wp2_with (at_builtin; refine wpL_app (xs := []) (n := 0) (v := .slice none 0 0) rfl _ _ _ _ rfl E_u8 rfl rfl (World.ownsRow_nil w w.heap.size _ _) (h.src Tryd.underlying62 (u8s_one l)) (by unfold maxLen; omega) (by omega) (Nat.le_refl _) ?_; intro v1 w1 hown1 hg1 hat1)
    go_ret
    exact ⟨_, rfl, H.out _ _ hown1 hg1⟩
  · have h1 : decide (W < 1) = false := by simp; omega
    have h8 : decide (8 < W) = true := by simpa using hW
    go_enter Tryd.func48, Tryd.ntmps48
    go_wp2_with (at_builtin; refine wpL_app (xs := []) (n := 0) (v := .slice none 0 0) rfl _ _ _ _ rfl E_u8 rfl rfl (World.ownsRow_nil w w.heap.size _ _) (h.src Tryd.underlying62 (u8s_one l)) (by unfold maxLen; omega) (by omega) (Nat.le_refl _) ?_; intro v1 w1 hown1 hg1 hat1)
    go_ret
    exact ⟨_, rfl, H.out _ _ hown1 hg1⟩

def allOf (l : List UInt8) (W : Int) (ns : List Nat) : List UInt8 := l ++ if 1 ≤ W ∧ W ≤ 8 then puts W.toNat ns else []
def OwnsSome (w : World) (L : List UInt8) (e : Ending) (w' : World) : Prop := ∃ v m, e = .returned v ∧ w'.ownsRow w.heap.size 5 1 v m (u8s L) ∧ Below w.heap.size w w'
theorem rall_any (A A2 : Option Addr) (n c n2 c2 : Nat) (l : List UInt8) (ns : List Nat) (W : Int) (w : World) (h : Rd w w.heap.size 1 A n c (u8s l)) (h2 : Rd w w.heap.size 1 A2 n2 c2 (u64s ns)) (hn : n + n2 * 8 ≤ 1000000) (hns : Hid (∀ x ∈ ns, x < 18446744073709551616)) :
    Calls Tryd.prog 23 #[.slice A n c, .int .i64 W, .slice A2 n2 c2] w (OwnsSome w (allOf l W ns)) := by
  have h2l : ns.length = n2 := by have := h2.len; simpa [u64s] using this
  have H2 := Lib.hid h2l
  clear h2l
  have hW8 : W.toNat ≤ 8 ∨ 8 < W := by omega
  go_enter Tryd.func23, Tryd.ntmps23
  go_wp2_with (go_at_call 48; refine (rput_bad _ _ _ l _ _ _ h (by omega) (by omega)).mono ?_; rintro e w1 ⟨v1, rfl, hown1, hb1⟩)
  go_loopw [7, 8] (fun vr ir wr => ∃ (i m : Nat) (L : List UInt8), i ≤ n2 ∧ Hid (L = allOf l W (ns.take i)) ∧ ir = .int .i64 i ∧ m ≤ n + i * 8 ∧ wr.ownsRow w.heap.size 5 1 vr m (u8s L) ∧ Below w.heap.size w wr) (fun _ ir _ => n2 - (intOf ir).toNat)
  case atStart => exact ⟨0, n, l, Nat.zero_le _, Lib.hid (by simp [allOf, puts]), rfl, by omega, hown1, hb1⟩
  case round =>
    obtain ⟨i, m, L, hi, hL, rfl, hm, hown, hb⟩ := hrel
    have hz := hb.size
    by_cases hlt : i < n2
    · obtain ⟨b, o, u, rfl, hbl, hu, hc⟩ := (h2.below hb).at_ hlt
      obtain ⟨x, hx, rfl⟩ := u64s_get _ _ _ hu
      have hx64 : x < 18446744073709551616 := hns.out x (List.mem_of_getElem? hx)
      have HX := Lib.hid hx64
      clear hx64
      obtain ⟨A1, c1, rfl⟩ := ownsRow_form hown
      have hrd := ownsRow_rd hown
      by_cases hW : 1 ≤ W ∧ W ≤ 8
      · obtain ⟨k, rfl⟩ := Int.eq_ofNat_of_zero_le (show 0 ≤ W by omega)
        go_wp2_with (go_at_call 48; refine (rput_good _ _ _ L k x _ hrd (by omega) (by omega) (by omega) HX).mono ?_; rintro e w1 ⟨v1, rfl, hown1, hb1⟩)
        go_roundw
        case rel =>
          refine ⟨i + 1, m + k, L ++ le k x, by omega, Lib.hid ?_, by go_num, by omega, ownsRow_low hown1 hz, hb.trans (hb1.mono hz)⟩
          rw [hL.out]; unfold allOf; rw [if_pos hW, if_pos hW, puts_take _ _ _ _ hx, Int.toNat_natCast, List.append_assoc]
        case measure => simp [intOf]; omega
      · go_wp2_with (go_at_call 48; refine (rput_bad _ _ _ L _ _ _ hrd (by omega) (by omega)).mono ?_; rintro e w1 ⟨v1, rfl, hown1, hb1⟩)
        go_roundw
        case rel =>
          refine ⟨i + 1, m, L, by omega, Lib.hid ?_, by go_num, by omega, ownsRow_low hown1 hz, hb.trans (hb1.mono hz)⟩
          rw [hL.out]; unfold allOf; rw [if_neg hW, if_neg hW]
        case measure => simp [intOf]; omega
    · obtain rfl : i = n2 := by omega
      go_wp2
      go_ret
      refine ⟨_, m, rfl, ?_, hb⟩
      rw [List.take_of_length_le (by rw [H2.out]; exact Nat.le_refl _)] at hL
      rw [← hL.out]
      exact hown

theorem rtext_long (A : Option Addr) (n c : Nat) (s : List UInt8) (w : World) (hs : 16384 < s.length) :
    Calls Tryd.prog 24 #[.slice A n c, .string (str s)] w fun e w' => e = .returned (.tuple #[.slice none 0 0, .bool false]) ∧ w = w' := by
  have hz : (str s).size = s.length := rfl
  have hb : decide (16384 < s.length) = true := by simpa using hs
  go_enter Tryd.func24, Tryd.ntmps24
  go_wp2
  go_ret2
  exact ⟨rfl, rfl⟩
theorem rtext_any (A : Option Addr) (n c : Nat) (l s : List UInt8) (w : World) (h : Rd w w.heap.size 1 A n c (u8s l)) (hn : n ≤ 500000) (hs : s.length ≤ 16384) :
    Calls Tryd.prog 24 #[.slice A n c, .string (str s)] w fun e w' => ∃ v, e = .returned (.tuple #[v, .bool true]) ∧ w'.ownsRow w.heap.size 5 1 v (n + 2 + s.length) (u8s (l ++ le 2 s.length ++ s)) ∧ Below w.heap.size w w' := by
  have hz : (str s).size = s.length := rfl
  have hb : decide (16384 < s.length) = false := by simp; omega
  have hx : s.length < 18446744073709551616 := by omega
  have HX := Lib.hid hx
  clear hx
  go_enter Tryd.func24, Tryd.ntmps24
  go_wp2_with (first
    | (go_at_call 48; refine (rput_good _ _ _ l 2 _ _ h (by omega) (by omega) (by omega) HX).mono ?_; rintro e w2 ⟨v2, rfl, hown2, hb2⟩; have hz2 := hb2.size)
    | (at_builtin; refine wpL_app (y := .string (str s)) rfl _ _ _ _ rfl E_u8 rfl rfl hown2 (Src.ofString _ Tryd.underlying9 (str s)) (by unfold maxLen; omega) (by omega) (by omega) ?_; intro v3 w3 hown3 hg3 hat3))
  go_ret2
  refine ⟨_, rfl, ?_, ?_⟩
  · rw [byteCells_str] at hown3
    rw [u8s_app]
    exact hown3
  · exact hb2.grown hg3 (by omega) (fun k e => (hown2.lt k e).1)

end Go.Proofs.YtacaonlahggdeaaDoor
