/- Contracts of the document's own Put, All and Text (keelsonref01). -/
import Derived.Test.YtlbjbkhnicbibaaText
namespace Go.Proofs.Ytlbjbkhnicbibaa
open Go.RowKit

theorem le_snocq (i x q : Nat) (hq : q = x / 256 ^ i) : u8s (le i x) ++ [Value.int .u8 ((q : Int) % 256)] = u8s (le (i + 1) x) := by
  subst hq
  rw [← le_snoc']
  simp

theorem rput_good (A : Option Addr) (n c : Nat) (l : List UInt8) (k x : Nat) (w : World) (h : Rd w w.heap.size 1 A n c (u8s l)) (hn : n ≤ 1000000) (hk1 : 1 ≤ k) (hk : k ≤ 8) (hx : Hid (x < 18446744073709551616)) :
    Calls Try.prog 35 #[.slice A n c, .int .i64 (k : Int), .int .u64 (x : Int)] w fun e w' => ∃ v, e = .returned v ∧ w'.ownsRow w.heap.size 5 1 v (n + k) (u8s (l ++ le k x)) ∧ Below w.heap.size w w' := by
  have h8 : decide ((8 : Int) < (k : Int)) = false := by simp; omega
  go_enter Try.func35, Try.ntmps35
  go_wp2_with (at_builtin; refine wpL_app (xs := []) (n := 0) (v := .slice none 0 0) rfl _ _ _ _ rfl E_u8 rfl rfl (World.ownsRow_nil w w.heap.size _ _) (h.src Try.underlying42 (u8s_one l)) (by unfold maxLen; omega) (by omega) (Nat.le_refl _) ?_; intro v1 w1 hown1 hg1 hat1)
  have hb1 : Below w.heap.size w w1 := (Below.refl _ _).grown hg1 (Nat.le_refl _) (fun k hk => by simp [Value.ownBlock] at hk)
  rw [Nat.zero_add, List.nil_append] at hown1
  go_loopw [2, 7, 8] (fun xr vr ir wr => ∃ i q : Nat, i ≤ k ∧ Hid (q = x / 256 ^ i) ∧ ir = .int .i64 i ∧ xr = .int .u64 (q : Int) ∧ wr.ownsRow w.heap.size 5 1 vr (n + i) (u8s (l ++ le i x)) ∧ Below w.heap.size w wr) (fun _ _ ir _ => k - (intOf ir).toNat)
  case atStart => exact ⟨0, x, Nat.zero_le _, Lib.hid (by simp), rfl, rfl, by simpa [le] using hown1, hb1⟩
  case round =>
    obtain ⟨i, q, hi, hq, rfl, rfl, hown, hb⟩ := hrel
    have hz := hb.size
    by_cases hlt : i < k
    · go_wp2_with (at_builtin; refine wpL_app rfl _ _ _ _ rfl E_u8 rfl rfl (hown.alloc _) (Src.lit Try.underlying42 _ rfl (by intro u hu; simp at hu; subst hu; rfl)) (by unfold maxLen; omega) (by omega) (by simp; omega) ?_; intro v2 w2 hown2 hg2 hat2)
      go_roundw
      case rel =>
        refine ⟨i + 1, q / 256, by omega, Lib.hid ?_, by go_num, ?_, ?_, (hb.alloc hz _).grown hg2 (by simp; omega) (fun k e => (hown.lt k e).1)⟩
        · rw [hq.out, Nat.div_div_eq_div_mul, Nat.pow_succ]
        · have h1 := hx.out
          have h2 : q ≤ x := by rw [hq.out]; exact Nat.div_le_self _ _
          rw [IntKind.wrap_u64]
          refine congrArg _ ?_
          omega
        · rw [u8s_app, ← le_snocq _ _ _ hq.out, ← List.append_assoc, ← u8s_app]
          exact hown2
      case measure => simp [intOf]; omega
    · obtain rfl : i = k := by omega
      go_wp2
      go_ret
      exact ⟨_, rfl, hown, hb⟩

theorem rput_bad (A : Option Addr) (n c : Nat) (l : List UInt8) (W x : Int) (w : World) (h : Rd w w.heap.size 1 A n c (u8s l)) (hn : n ≤ 1000000) (hW : W < 1 ∨ 8 < W) :
    Calls Try.prog 35 #[.slice A n c, .int .i64 W, .int .u64 x] w fun e w' => ∃ v, e = .returned v ∧ w'.ownsRow w.heap.size 5 1 v n (u8s l) ∧ Below w.heap.size w w' := by
  have hfin : ∀ w1 v1, w1.ownsRow w.heap.size 5 1 v1 (0 + n) ([] ++ u8s l) → w.grownBy w1 (Value.ownBlock (.slice none 0 0)) → w1.ownsRow w.heap.size 5 1 v1 n (u8s l) ∧ Below w.heap.size w w1 := by
    intro w1 v1 hown1 hg1
    rw [Nat.zero_add, List.nil_append] at hown1
    exact ⟨hown1, (Below.refl _ _).grown hg1 (Nat.le_refl _) (fun k hk => by simp [Value.ownBlock] at hk)⟩
  have H := Lib.hid hfin
  clear hfin
  rcases hW with hW | hW
  · go_enter Try.func35, Try.ntmps35
    go_wp2_with (at_builtin; refine wpL_app (xs := []) (n := 0) (v := .slice none 0 0) rfl _ _ _ _ rfl E_u8 rfl rfl (World.ownsRow_nil w w.heap.size _ _) (h.src Try.underlying42 (u8s_one l)) (by unfold maxLen; omega) (by omega) (Nat.le_refl _) ?_; intro v1 w1 hown1 hg1 hat1)
    go_ret
    exact ⟨_, rfl, H.out _ _ hown1 hg1⟩
  · have h1 : decide (W < 1) = false := by simp; omega
    have h8 : decide (8 < W) = true := by simpa using hW
    go_enter Try.func35, Try.ntmps35
    go_wp2_with (at_builtin; refine wpL_app (xs := []) (n := 0) (v := .slice none 0 0) rfl _ _ _ _ rfl E_u8 rfl rfl (World.ownsRow_nil w w.heap.size _ _) (h.src Try.underlying42 (u8s_one l)) (by unfold maxLen; omega) (by omega) (Nat.le_refl _) ?_; intro v1 w1 hown1 hg1 hat1)
    go_ret
    exact ⟨_, rfl, H.out _ _ hown1 hg1⟩

def allOf (l : List UInt8) (W : Int) (ns : List Nat) : List UInt8 := l ++ if 1 ≤ W ∧ W ≤ 8 then puts W.toNat ns else []
def OwnsSome (w : World) (L : List UInt8) (e : Ending) (w' : World) : Prop := ∃ v m, e = .returned v ∧ w'.ownsRow w.heap.size 5 1 v m (u8s L) ∧ Below w.heap.size w w'
end Go.Proofs.Ytlbjbkhnicbibaa
