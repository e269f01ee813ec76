/- QuorumCount: of any numbers as many are counted as are the same, and all unlike ones together are all, for every input. -/
import Derived.Test.YtpdgcphflheeiaaQl
import Derived.Test.YtpdgcphflheeiaaRowkitb
import Derived.Test.YtpdgcphflheeiaaQw
namespace Go.Proofs.Ytpdgcphflheeiaa
open Go.RowKit
set_option maxRecDepth 20000

theorem count_early (A : Option Addr) (n c : Nat) (x : Int) (w : World) (h : 1000 < n) :
    Calls Try.prog 6 #[.slice A n c, .int .u8 x] w fun e w' => e = .returned (.bool true) ∧ Below w.heap.size w w' := by
  have HL := Lib.hid (lives20 w)
  have d3 : decide (1000 < n) = true := by simp; omega
  have d4 : ¬ n ≤ 1000 := by omega
  have d6 : decide (1000 < (n : Int)) = true := by simp; omega
  go_enter Try.func6, Try.ntmps6
  go_wp2_with (first
    | (go_at_call 7; refine HL.out.mono ?_; rintro e w3 ⟨rfl, hb3⟩)
    | fail)
  go_ret
  exact ⟨rfl, hb3⟩
def sumTo (l : List UInt8) (k : Nat) : Nat := l.countP fun y => decide (y.toNat < k)
set_option maxHeartbeats 2000000 in
theorem count_late {w : World} {A : Option Addr} {n c : Nat} {l : List UInt8} (x : UInt8) (h : Rd w w.heap.size 1 A n c (u8s l)) (hn : n ≤ 1000) :
    Calls Try.prog 6 #[.slice A n c, .int .u8 (x.toNat : Int)] w fun e w' => e = .returned (.bool true) ∧ Below w.heap.size w w' := by
  have hl : l.length = n := by have := h.len; rwa [u8s_len] at this
  have HC := Lib.hid (fun k => count8_any (x := k) h (by omega))
  have H1 := Lib.hid (fun i (hi : i < n) => h.at_ hi)
  have HLN := Lib.hid hl
  have HLV := Lib.hid (lives20 w)
  have d1 : decide (1000 < n) = false := by simp; omega
  have d2 : decide (1000 < (n : Int)) = false := by simp; omega
  have hsum : ∀ k, sumTo l k ≤ n := fun k => hl ▸ List.countP_le_length
  have hcnt : ∀ k, cnt l k ≤ n := fun k => hl ▸ List.countP_le_length
  have HS := Lib.hid hsum
  have HT := Lib.hid hcnt
  have h1 : (n : Int) ≤ 1000 := by omega
  obtain ⟨xn, hx⟩ : ∃ xn, xn = x.toNat := ⟨_, rfl⟩
  rw [← hx]
  clear h hl hsum hcnt hx
  go_enter Try.func6, Try.ntmps6
  go_wp2_with (fail)
  go_loop [5, 16] (fun sr ir => ∃ i : Nat, i ≤ n ∧ ir = .int .i64 (i : Int) ∧ sr = .int .i64 ((cnt (l.take i) xn : Nat) : Int)) (fun _ ir => n - (intOf ir).toNat)
  case atStart => exact ⟨0, Nat.zero_le _, rfl, rfl⟩
  case round =>
    obtain ⟨i, hi, rfl, rfl⟩ := hrel
    by_cases hlt : i < n
    · obtain ⟨p1, o1, v1, rfl, hp1, hv1, hc1⟩ := H1.out i hlt
      obtain ⟨y, hy, rfl⟩ := u8s_get l i v1 hv1
      have hst : cnt (l.take (i + 1)) xn = cnt (l.take i) xn + if (y.toNat == xn) = true then 1 else 0 := by
        obtain ⟨hil, rfl⟩ := List.getElem?_eq_some_iff.1 hy
        rw [List.take_succ_eq_append_getElem hil, cnt_snoc]
      have hle : cnt (l.take i) xn ≤ 1000000 := by have := cnt_le (l.take i) xn; rw [List.length_take] at this; omega
      have HST := Lib.hid hst
      have hbb : ((y.toNat : Int) == (xn : Int)) = (y.toNat == xn) := by rw [Bool.eq_iff_iff]; simp; omega
      have dd : decide (i < n) = true := by simpa using hlt
      clear hv1 hp1 hy hst
      generalize cnt (l.take i) xn = q at *
      generalize y.toNat = yn at *
      cases hb : (yn == xn)
      · rw [hb] at hbb HST
        clear hb
        go_wp2_with (fail)
        go_round
        case rel => exact ⟨i + 1, by omega, by go_num, by rw [HST.out]; rfl⟩
        case measure => simp [intOf]; omega
      · rw [hb] at hbb HST
        clear hb
        go_wp2_with (fail)
        go_round
        case rel => exact ⟨i + 1, by omega, by go_num, by rw [HST.out]; simp⟩
        case measure => simp [intOf]; omega
    · obtain rfl : i = n := by omega
      have hT : l.take i = l := List.take_of_length_le (by rw [HLN.out]; exact Nat.le_refl _)
      rw [hT]
      have dd : decide (i < i) = false := by simp
      clear hlt hT
      have hm : cnt l xn ≤ 1000 := Nat.le_trans (HT.out xn) hn
      have HCX := Lib.hid (HC.out xn)
      generalize cnt l xn = m at *
      go_wp2_with (fail)
      go_loop [6, 26] (fun sr ir => ∃ k : Nat, k ≤ 256 ∧ ir = .int .i64 (k : Int) ∧ sr = .int .i64 ((sumTo l k : Nat) : Int)) (fun _ ir => 256 - (intOf ir).toNat)
      case atStart => exact ⟨0, Nat.zero_le _, rfl, by rw [show sumTo l 0 = 0 by unfold sumTo; simp]; rfl⟩
      case round =>
        obtain ⟨k, hk, rfl, rfl⟩ := hrel
        by_cases hlt : k < 256
        · have hst : sumTo l (k + 1) = sumTo l k + cnt l k := count_lt l k
          have hs := HS.out k
          have ht := HT.out k
          have hck := HC.out k
          have e1 : IntKind.u8.wrap (k : Int) = (k : Int) := by simp only [IntKind.wrap_u8]; omega
          have HCK := Lib.hid hck
          have HST := Lib.hid hst
          have dk : decide ((k : Int) < 256) = true := by simp; omega
          have hk2 : (k : Int) ≤ 300 := by omega
          have hs2 : sumTo l k ≤ 1000 := by omega
          have ht2 : cnt l k ≤ 1000 := by omega
          have HLT := Lib.hid hlt
          clear hck hst hs ht hlt hk
          generalize sumTo l k = s1 at *
          generalize cnt l k = s2 at *
          go_wp2_with (first
            | (go_at_call 20; refine HCK.out.mono ?_; rintro e w4 ⟨rfl, rfl⟩)
            | fail)
          go_round
          case rel => exact ⟨k + 1, by have := HLT.out; omega, by go_num, by rw [HST.out]; go_num⟩
          case measure => have := HLT.out; simp [intOf]; omega
        · obtain rfl : k = 256 := by omega
          have he : sumTo l 256 = i := (count_256 l).trans HLN.out
          rw [he]
          have dk : decide (((256 : Nat) : Int) < 256) = false := by simp
          clear hlt he
          go_wp2_with (first
            | (go_at_call 20; refine HCX.out.mono ?_; rintro e w4 ⟨rfl, rfl⟩)
            | (go_at_call 7; refine HLV.out.mono ?_; rintro e w5 ⟨rfl, hb5⟩)
            | fail)
          go_ret
          exact ⟨rfl, hb5⟩
theorem quorumCount_walk {w : World} (A : Option Addr) (n c : Nat) (l : List UInt8) (h : Rd w w.heap.size 1 A n c (u8s l)) (x : UInt8) :
    Calls Try.prog 6 #[.slice A n c, .int .u8 (x.toNat : Int)] w fun e w' => e = .returned (.bool true) ∧ Below w.heap.size w w' := by
  by_cases hn : 1000 < n
  · exact count_early A n c _ w hn
  · exact count_late x h (by omega)
theorem quorumCount_top {w : World} (A : Option Addr) (n c : Nat) (l : List UInt8) (h : Rd w w.heap.size 1 A n c (u8s l)) (x : Int) (hx : (Lit.int .u8 x).wf = true) :
    Calls Try.prog 6 #[.slice A n c, .int .u8 x] w fun e w' => e = .returned (.bool true) ∧ Below w.heap.size w w' := by
  obtain ⟨y, rfl⟩ := u8_of hx
  exact quorumCount_walk A n c l h y
namespace quorumCount
open Go.ChangeShapes Go.WideShapes Go.ChangeAt
set_option maxRecDepth 100000 in
theorem lifted (os : Os) (started : os.Started) (H : Type) (enc : TypeId × Value → H) :
    ReturnsInHanded {} Try.checked os 6 .any (Rows.quorumCountSpec.pre6 enc Try.prog Try.f6 Rows.quorumCountRow.domain false) (Rows.quorumCountSpec.post enc Try.prog Try.f6 false true false false) := by
  refine returnsInHanded_of_change (C := Try.checked) own started (by kernel_rfl) Try.func6
    (ChangeSpec.witness6 (enc := enc) (C := Try.checked) false ⟨#[], #[.slice none 0 0, .int .u8 0], []⟩ 8 (by kernel_rfl) (by kernel_rfl) (by kernel_rfl) (by kernel_rfl)) ?_
  intro W base args ds gs before hval0 hW _ _
  have hval : ∀ (j : Nat) t v, Try.f6.params[j]? = some t → args[j]? = some v → Value.okWide Try.prog W .any base t v := hval0
  have hW' := hW
  obtain ⟨p, q, hA0, hV, rfl, hfz, hnd⟩ := hW
  have hA : DataW.TrodAll enc Try.prog W 0 (fun _ => true) true Try.f6.params.toList args.toList ds p := hA0
  rw [Try.params6] at hA hval
  obtain ⟨v0, vs0, d0, ds0, p0, q0, hargs, rfl, rfl, h0, r0⟩ := trodAll_cons hA
  obtain ⟨v1, vs1, d1, ds1, p1, q1, rfl, rfl, rfl, h1, r1⟩ := trodAll_cons r0
  obtain ⟨rfl, rfl, rfl⟩ := trodAll_nil r1
  obtain rfl : args = #[v0, v1] := by cases args; simp_all
  obtain ⟨rfl, rfl⟩ := trodVars_none hV
  have k0 := h0
  have lt0 : ∀ x ∈ p0, x.block < W.heap.size := by obtain ⟨m, hm⟩ := k0; exact DataW.trod_lt m _ _ _ hm
  obtain ⟨a0, n0, c0, l0, rfl, w0⟩ := dec_bytes Try.underlying39 Try.underlying5 (by kernel_rfl) (hval 0 39 v0 rfl rfl) h0
  have k1 := h1
  have lt1 : ∀ x ∈ p1, x.block < W.heap.size := by obtain ⟨m, hm⟩ := k1; exact DataW.trod_lt m _ _ _ hm
  obtain ⟨x1, rfl, w1⟩ := dec_int Try.underlying5 (hval 1 5 v1 rfl rfl) h1
  clear hA0 hval0
  refine (quorumCount_top a0 n0 c0 l0 w0 x1 w1).mono fun e W' ⟨he, bel⟩ => ?_
  subst he
  exact ⟨_, rfl, _, _, _, [], _, [], hW', trodAll_mk1 (shut_bool Try.underlying4 _), (trodAll_cons_mk (Below.trod laidOut (by kernel_rfl) (of_decide_eq_true (by kernel_rfl)) k0 bel lt0) (trodAll_cons_mk (Below.trod laidOut (by kernel_rfl) (of_decide_eq_true (by kernel_rfl)) k1 bel lt1) trodAll_mk0)), rfl, bel.frame _, fun h => by cases h⟩

theorem over : Rows.quorumCountRow.holds Try.pinned (OpenSpec.ofChange Rows.quorumCountSpec) :=
  OpenClaim.holds_of_wide 6 Try.f6 rfl rfl rfl rfl rfl rfl rfl ⟨rfl, rfl, rfl, rfl, rfl⟩ rfl rfl rfl rfl rfl (by kernel_rfl) Try.func6 (by kernel_rfl)
    (of_decide_eq_true (by kernel_rfl)) (by unfold Func.isWrapper; first | (rw [if_pos (by decide +kernel)]; kernel_rfl) | (rw [if_neg (by decide +kernel)]; exact ⟨rfl, rfl⟩))
    (fun os started H enc _ => lifted os started H enc)
/-- The given statement. -/
theorem proved : Rows.QuorumCountSaid := over
end quorumCount

end Go.Proofs.Ytpdgcphflheeiaa
