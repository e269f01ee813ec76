/- DrawAll: each number below another one is drawn by some bytes: the law answers true for every pair of ints. -/
import Derived.Test.YtfiejdikgbeodaaDlives
import Derived.Test.YtfiejdikgbeodaaRowkit
namespace Go.Proofs.Ytfiejdikgbeodaa
open Go.RowKit

theorem taken_nil (k x : Nat) (h : x = 0) : taken k x [] = 0 := by
  subst h
  induction k with
  | zero => rfl
  | succ k ih => exact ih
theorem numOf_nil (n : Int) : numOf n [] = 0 := by
  unfold numOf
  split
  · rfl
  · rw [taken_nil _ _ rfl, Nat.zero_mod]
theorem taken_snoc (i x : Nat) (l : List UInt8) : taken (i + 1) x l = 256 * taken i x l + hd (l.drop i) := by
  induction i generalizing x l with
  | zero => rfl
  | succ i ih =>
    rw [taken, ih, taken]
    congr 2
    cases l <;> simp
theorem taken_app (i x : Nat) (l r : List UInt8) (h : i ≤ l.length) : taken i x (l ++ r) = taken i x l := by
  induction i generalizing x l with
  | zero => rfl
  | succ i ih =>
    cases l with
    | nil => simp at h
    | cons y l =>
      simp only [taken, List.cons_append, List.tail_cons]
      rw [ih _ l (by simpa using h)]
      rfl
theorem taken_le (i k : Nat) (l : List UInt8) (h : i ≤ k) : taken i 0 l ≤ taken k 0 l := by
  induction k with
  | zero => obtain rfl : i = 0 := by omega
            exact Nat.le_refl _
  | succ k ih =>
    rcases Nat.lt_or_ge i (k + 1) with h1 | h1
    · have := ih (by omega)
      rw [taken_snoc]
      omega
    · obtain rfl : i = k + 1 := by omega
      exact Nat.le_refl _
theorem taken_be (k x : Nat) : taken k 0 (le k x).reverse = x % 256 ^ k := by
  induction k generalizing x with
  | zero => simp [taken, Nat.mod_one]
  | succ k ih =>
    have e : (le (k + 1) x).reverse = (le k (x / 256)).reverse ++ [UInt8.ofNat (x % 256)] := by simp [le]
    have hl : (le k (x / 256)).reverse.length = k := by rw [List.length_reverse, le_len]
    rw [e, taken_snoc, taken_app _ _ _ _ (by omega), ih, List.drop_append_of_le_length (by omega), List.drop_of_length_le (by omega)]
    have h8 : hd ([] ++ [UInt8.ofNat (x % 256)]) = x % 256 := by
      show (UInt8.ofNat (x % 256)).toNat = _
      rw [UInt8.toNat_ofNat']
      omega
    rw [h8, Nat.pow_succ, Nat.mul_comm (256 ^ k) 256, Nat.mod_mul]
    omega
/-- How many bytes are laid for a greatest number m. -/
def wz (m : Nat) : Nat := if m = 0 then 0 else wd m
theorem wz_step (m : Nat) (h : 0 < m) : wz m = wz (m / 256) + 1 := by
  unfold wz
  rw [if_neg (by omega)]
  by_cases h1 : m < 256
  · rw [if_pos (by omega), wd_lo h1]
  · rw [if_neg (by omega), wd_hi (by omega)]; omega
theorem wz_pow (m : Nat) : m < 256 ^ wz m := by
  induction m using Nat.strongRecOn with
  | ind m ih =>
    rcases Nat.eq_zero_or_pos m with h | h
    · subst h; decide
    · rw [wz_step m h, Nat.pow_succ]
      have := ih (m / 256) (by omega)
      omega
theorem wz_le (m : Nat) (h : m < 9223372036854775808) : wz m ≤ 8 := by
  unfold wz
  split
  · omega
  · exact wd_le 7 m (by omega)
/-- The value of a drawn number, told by the list. -/
theorem numOf_be (m x : Nat) (h : x < m + 1) : numOf ((m + 1 : Nat) : Int) (le (wz m) x).reverse = x ∧ numUsed ((m + 1 : Nat) : Int) = wz m := by
  unfold numOf numUsed wz
  rcases Nat.eq_zero_or_pos m with h0 | h0
  · subst h0
    obtain rfl : x = 0 := by omega
    exact ⟨rfl, rfl⟩
  · have e : ((m + 1 : Nat) : Int).toNat - 1 = m := by omega
    have hp := wz_pow m
    have hw : wz m = wd m := by unfold wz; rw [if_neg (by omega)]
    rw [hw] at hp
    rw [if_neg (by omega), if_neg (by omega), if_neg (by omega), e, taken_be, Nat.mod_eq_of_lt (a := x) (by omega), show ((m + 1 : Nat) : Int).toNat = m + 1 from Int.toNat_natCast _, Nat.mod_eq_of_lt (by omega)]
    exact ⟨rfl, rfl⟩

def DA (w : World) (y K : Nat) (xr br mr : Value) (wr : World) : Prop := ∃ (j mm xx c : Nat) (A : Option Addr), Hid (K = j + wz mm) ∧ Hid (xx = y / 256 ^ j) ∧ xx < 9223372036854775807 ∧ mm < 9223372036854775807 ∧ xr = .int .i64 (xx : Int) ∧ mr = .int .i64 (mm : Int) ∧ br = .slice A j c ∧ Rd wr wr.heap.size 1 A j c (u8s (le j y).reverse) ∧ Below w.heap.size w wr

set_option maxRecDepth 8000 in
theorem drawAll_walk {w : World} (n : Int) (hn : (Lit.int .i64 n).wf = true) (x : Int) (hx : (Lit.int .i64 x).wf = true) :
    Calls Try.prog 8 #[.int .i64 n, .int .i64 x] w fun e w' => e = .returned (.bool true) ∧ Below w.heap.size w w' := by
  have hno : ∀ (w : World) (g : Nat), Sr g 61 w (some ⟨g, 0, none⟩) [] → Calls Try.prog 25 #[.pointer (some ⟨g, 0, none⟩), .int .i64 n] w fun e w' => e = .returned (.int .i64 0) ∧ w.grownBy w' (some g) := by
    intro w g h
    refine (num_of n hn h).mono ?_
    rintro e w' ⟨rfl, _, hg⟩
    rw [numOf_nil]
    exact ⟨rfl, hg⟩
  by_cases hbad : x < 0 ∨ n ≤ x
  · have HN := Lib.hid hno
    clear hno
    have tl : ∀ W : World, Calls Try.prog 22 #[.slice none 0 0] W fun e w' => ∃ g, e = .returned (.pointer (some ⟨g, 0, none⟩)) ∧ W.heap.size ≤ g ∧ Sr g 61 w' (some ⟨g, 0, none⟩) [] ∧ Below W.heap.size W w' := fun W => new_of none 0 0 [] Rd.nil_ (by omega)
    have HT := Lib.hid tl
    clear tl hn hx
    rcases Int.lt_or_le x 0 with h1 | h1
    · clear hbad
      go_enter Try.func8, Try.ntmps8
      go_wp2_with (first
        | (go_at_call 22; refine (HT.out _).mono ?_; rintro e w1 ⟨g, rfl, hg, hS, hb⟩)
        | (go_at_call 25; refine (HN.out _ g hS).mono ?_; rintro e w2 ⟨rfl, hg2⟩)
        | (go_at_call 21; refine (dlives _).mono ?_; rintro e w3 ⟨rfl, hb3⟩))
      go_ret
      have h12 := hb.grown hg2 hb.size (fun k e => by obtain rfl : g = k := Option.some.inj e; exact hg)
      exact ⟨rfl, h12.trans (hb3.mono h12.size)⟩
    · have h2 : n ≤ x := by omega
      have h3 : decide (x < 0) = false := by simp; omega
      clear hbad
      go_enter Try.func8, Try.ntmps8
      go_wp2_with (first
        | (go_at_call 22; refine (HT.out _).mono ?_; rintro e w1 ⟨g, rfl, hg, hS, hb⟩)
        | (go_at_call 25; refine (HN.out _ g hS).mono ?_; rintro e w2 ⟨rfl, hg2⟩)
        | (go_at_call 21; refine (dlives _).mono ?_; rintro e w3 ⟨rfl, hb3⟩))
      go_ret
      have h12 := hb.grown hg2 hb.size (fun k e => by obtain rfl : g = k := Option.some.inj e; exact hg)
      exact ⟨rfl, h12.trans (hb3.mono h12.size)⟩
  · clear hno
    have hn' := hn
    simp [Lit.wf, IntKind.min, IntKind.max, IntKind.signed, IntKind.bits] at hn hx
    obtain ⟨m, hnm⟩ : ∃ m : Nat, n = ((m + 1 : Nat) : Int) := ⟨(n - 1).toNat, by omega⟩
    have hsub : n - 1 = (m : Int) := by omega
    have hn1 : 1 ≤ n := by omega
    have hn2 : n ≤ 9223372036854775807 := by omega
    obtain ⟨y, rfl⟩ : ∃ y : Nat, x = (y : Int) := ⟨x.toNat, by omega⟩
    have hym : y < m + 1 := by omega
    have hm63 : m < 9223372036854775807 := by omega
    obtain ⟨L, hL⟩ : ∃ L, L = (le (wz m) y).reverse := ⟨_, rfl⟩
    obtain ⟨K, hK⟩ : ∃ K, K = wz m := ⟨_, rfl⟩
    have hK8 : K ≤ 8 := by rw [hK]; exact wz_le m (by omega)
    have hLl : L.length = K := by rw [hL, hK, List.length_reverse, le_len]
    have hNum := fun (w : World) (g : Nat) (h : Sr g 61 w (some ⟨g, 0, none⟩) L) => num_of (w := w) n hn' h
    rw [show numOf n L = y from by rw [hL, hnm]; exact (numOf_be m y hym).1, show numUsed n = wz m from by rw [hnm]; exact (numOf_be m y hym).2, ← hK, List.drop_of_length_le (by omega)] at hNum
    have hTk : taken K 0 L = y := by rw [hL, hK, taken_be, Nat.mod_eq_of_lt (Nat.lt_of_le_of_lt (show y ≤ m by omega) (wz_pow m))]
    have HNum := Lib.hid hNum
    have HTk := Lib.hid hTk
    have HK := Lib.hid hK
    have HL := Lib.hid hL
    have HLl := Lib.hid hLl
    have HN' := Lib.hid hn'
    have hb : decide (n ≤ (y : Int)) = false := by simp; omega
    have hb2 : decide ((y : Int) < 0) = false := by simp
    have HM := Lib.hid hm63
    have HY := Lib.hid hym
    have hmi : (m : Int) < 9223372036854775807 := by omega
    have hyi : (y : Int) < 9223372036854775807 := by omega
    have HNM := Lib.hid hnm
    clear hNum hTk hK hL hLl hn' hn hx hbad hym hm63 hnm
    go_enter Try.func8, Try.ntmps8
    go_wp2
    go_loopw [1, 5, 6] (fun xr br mr wr => DA w y K xr br mr wr) (fun _ _ mr _ => (intOf mr).toNat)
    case atStart => exact ⟨0, m, y, 0, none, Lib.hid (by rw [HK.out, Nat.zero_add]), Lib.hid (by simp), by omega, by omega, rfl, rfl, rfl, Rd.nil_, Below.refl _ _⟩
    case round =>
      obtain ⟨j, mm, xx, c, A, hk, hxx, hx63, hm63, rfl, rfl, rfl, hrd, hbel⟩ := hrel
      rcases Nat.eq_zero_or_pos mm with h0 | h0
      · subst h0
        have hjK : j = K := by have := hk.out; simp [wz] at this; omega
        subst hjK
        have hlen : (u8s L).length = j := by rw [u8s_len]; exact HLl.out
        have hLj : L = (le j y).reverse := by rw [HL.out, ← HK.out]
        rw [← hLj] at hrd
        have HLj := Lib.hid hLj
        clear hLj hxx hx63 hk hlen
        go_wp2
        go_loop [7, 40] (fun tr ir => ∃ (i t : Nat), i ≤ j ∧ Hid (t = taken i 0 L) ∧ ir = .int .i64 (i : Int) ∧ tr = .int .i64 (t : Int)) (fun _ ir => j - (intOf ir).toNat)
        case atStart => exact ⟨0, 0, Nat.zero_le _, Lib.hid rfl, rfl, rfl⟩
        case round =>
          obtain ⟨i, t, hi, ht, rfl, rfl⟩ := hrel
          by_cases hij : i < j
          · obtain ⟨b, o, u, rfl, hbl, hu, hc⟩ := hrd.at_ hij
            obtain ⟨z, hz, rfl⟩ := u8s_get _ _ _ hu
            have hT : taken (i + 1) 0 L = 256 * t + z.toNat := by
              rw [taken_snoc, ← ht.out]
              congr 1
              have : (L.drop i).head? = some z := by rw [List.head?_drop]; exact hz
              rw [hd, List.headD_eq_head?_getD, this]; rfl
            have hle := taken_le (i + 1) j L (by omega)
            rw [HTk.out] at hle
            have h255 := z.toNat_lt
            have HT := Lib.hid hT
            obtain ⟨q, hq⟩ : ∃ q, q = z.toNat := ⟨_, rfl⟩
            rw [← hq] at hc h255 HT
            have HE : Hid (wrap64 (wrap64 ((t : Int) * 256) + (q : Int)) = ((256 * t + q : Nat) : Int)) := Lib.hid (by
              have := HT.out
              have h2 : wrap64 ((t : Int) * 256) = (t : Int) * 256 := by unfold wrap64; omega
              rw [h2]
              unfold wrap64
              omega)
            have hq0 : (0 : Int) ≤ (q : Int) := by omega
            have hq256 : (q : Int) < 256 := by omega
            have HYI := Lib.hid hyi
            clear hT hle hq hu hz h255 hyi hmi
            go_wp2
            go_round
            case rel => exact ⟨i + 1, 256 * t + q, by omega, Lib.hid HT.out.symm, by go_num, by rw [← HE.out]⟩
            case measure => simp [intOf]; omega
          · obtain rfl : i = j := by omega
            obtain rfl : t = y := ht.out.trans HTk.out
            have q0 : ((t : Int) == (t : Int)) = true := beq_self_eq_true _
            have HHi : i ≤ 1000000 := by omega
            have HHI := Lib.hid HHi
            clear HHi hi hij
            go_wp2_with (first
              | (go_at_call 22; refine (new_of A i c L hrd HHI.out).mono ?_; rintro e w1 ⟨g, rfl, hg, hS, hbn⟩)
              | (go_at_call 25; refine (HNum.out _ g hS).mono ?_; rintro e w2 ⟨rfl, hS2, hg2⟩)
              | (go_at_call 35; refine (left_of hS2).mono ?_; rintro e w2' ⟨rfl, rfl⟩)
              | (go_at_call 21; refine (dlives _).mono ?_; rintro e w3 ⟨rfl, hb3⟩))
            go_ret
            have h12 := hbn.grown hg2 hbn.size (fun k e => by obtain rfl : g = k := Option.some.inj e; exact hg)
            exact ⟨rfl, hbel.trans ((h12.trans (hb3.mono h12.size)).mono hbel.size)⟩
      · have hj8 : j ≤ 8 := by have := hk.out; omega
        have hlit := World.ownsRow_lit (base := wr.heap.size) (e := 5) (size := 1) wr #[.int .u8 (IntKind.u8.wrap (xx : Int))] 1 (Nat.le_refl _) (by unfold maxLen; omega) rfl
        go_wp2_with (at_builtin; refine wpL_app (m := j) rfl _ _ _ _ rfl E8 rfl rfl hlit ((hrd.below ((Below.refl _ _).alloc (Nat.le_refl _) _)).src Try.underlying23 (u8s_one _)) (by unfold maxLen; omega) (by omega) (by simp) ?_; intro v2 w2 hown2 hg2 hat2)
        have hb2' : Below wr.heap.size wr w2 := ((Below.refl _ _).alloc (Nat.le_refl _) _).grown hg2 (by simp) (fun k e => by obtain rfl : wr.heap.size = k := Option.some.inj e; exact Nat.le_refl _)
        obtain ⟨A2, c2, rfl⟩ := ownsRow_form hown2
        have hrd2 := ownsRow_rd hown2
        go_roundw
        case rel =>
          refine ⟨j + 1, mm / 256, xx / 256, c2, A2, Lib.hid ?_, Lib.hid ?_, by omega, by omega, by go_num, by go_num, by rw [Nat.add_comm], ?_, hbel.trans (hb2'.mono hbel.size)⟩
          · rw [hk.out, wz_step mm h0]; omega
          · rw [hxx.out, Nat.div_div_eq_div_mul, Nat.pow_succ]
          · have e : u8s (le (j + 1) y).reverse = [Value.int .u8 ((xx : Int) % 256)] ++ u8s (le j y).reverse := by
              rw [le_snoc, List.reverse_append, u8s_app, ← hxx.out]
              have : (xx % 256) % 2 ^ 8 = xx % 256 := Nat.mod_eq_of_lt (by omega)
              simp [u8s, u8, UInt8.toNat_ofNat', this]
            rw [e, Nat.add_comm]
            exact hrd2
        case measure => simp [intOf]; omega

namespace drawAll
open Go.ChangeShapes Go.WideShapes Go.ChangeAt
set_option maxRecDepth 100000 in
theorem lifted (os : Os) (started : os.Started) (H : Type) (enc : TypeId × Value → H) :
    ReturnsInHanded {} Try.checked os 8 .any (Rows.drawAllSpec.pre6 enc Try.prog Try.f8 Rows.drawAllRow.domain false) (Rows.drawAllSpec.post enc Try.prog Try.f8 false true false false) := by
  refine returnsInHanded_of_change (C := Try.checked) own started (by kernel_rfl) Try.func8
    (ChangeSpec.witness6 (enc := enc) (C := Try.checked) false ⟨#[], #[.int .i64 0, .int .i64 0], []⟩ 8 (by kernel_rfl) (by kernel_rfl) (by kernel_rfl) (by kernel_rfl)) ?_
  intro W base args ds gs before hval0 hW _ _
  have hval : ∀ (j : Nat) t v, Try.f8.params[j]? = some t → args[j]? = some v → Value.okWide Try.prog W .any base t v := hval0
  have hW' := hW
  obtain ⟨p, q, hA0, hV, rfl, hfz, hnd⟩ := hW
  have hA : DataW.TrodAll enc Try.prog W 0 (fun _ => true) true Try.f8.params.toList args.toList ds p := hA0
  rw [Try.params8] at hA hval
  obtain ⟨v0, vs0, d0, ds0, p0, q0, hargs, rfl, rfl, h0, r0⟩ := trodAll_cons hA
  obtain ⟨v1, vs1, d1, ds1, p1, q1, rfl, rfl, rfl, h1, r1⟩ := trodAll_cons r0
  obtain ⟨rfl, rfl, rfl⟩ := trodAll_nil r1
  obtain rfl : args = #[v0, v1] := by cases args; simp_all
  obtain ⟨rfl, rfl⟩ := trodVars_none hV
  have k0 := h0
  have lt0 : ∀ x ∈ p0, x.block < W.heap.size := by obtain ⟨m, hm⟩ := k0; exact DataW.trod_lt m _ _ _ hm
  obtain ⟨x0, rfl, w0⟩ := dec_int Try.underlying3 (hval 0 3 v0 rfl rfl) h0
  have k1 := h1
  have lt1 : ∀ x ∈ p1, x.block < W.heap.size := by obtain ⟨m, hm⟩ := k1; exact DataW.trod_lt m _ _ _ hm
  obtain ⟨x1, rfl, w1⟩ := dec_int Try.underlying3 (hval 1 3 v1 rfl rfl) h1
  clear hA0 hval0
  refine (drawAll_walk x0 w0 x1 w1).mono fun e W' ⟨he, bel⟩ => ?_
  subst he
  exact ⟨_, rfl, _, _, _, [], _, [], hW', trodAll_mk1 (shut_bool Try.underlying4 _), (trodAll_cons_mk (Below.trod laidOut (by kernel_rfl) (of_decide_eq_true (by kernel_rfl)) k0 bel lt0) (trodAll_cons_mk (Below.trod laidOut (by kernel_rfl) (of_decide_eq_true (by kernel_rfl)) k1 bel lt1) trodAll_mk0)), rfl, bel.frame _, fun h => by cases h⟩

theorem over : Rows.drawAllRow.holds Try.pinned (OpenSpec.ofChange Rows.drawAllSpec) :=
  OpenClaim.holds_of_wide 8 Try.f8 rfl rfl rfl rfl rfl rfl rfl ⟨rfl, rfl, rfl, rfl, rfl⟩ rfl rfl rfl rfl rfl (by kernel_rfl) Try.func8 (by kernel_rfl)
    (of_decide_eq_true (by kernel_rfl)) (by unfold Func.isWrapper; first | (rw [if_pos (by decide +kernel)]; kernel_rfl) | (rw [if_neg (by decide +kernel)]; exact ⟨rfl, rfl⟩))
    (fun os started H enc _ => lifted os started H enc)
/-- The given statement. -/
theorem proved : Rows.DrawAllSaid := over
end drawAll

end Go.Proofs.Ytfiejdikgbeodaa
