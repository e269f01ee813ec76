/- BagKeeps: what was put, but not lost, and what was doubled, was taken, cleared, or is there, for every list of calls. -/
import Derived.Test.YtdddknncndjbcaaBagl
import Derived.Test.YtdddknncndjbcaaRowkitb
namespace Go.Proofs.Ytdddknncndjbcaa
open Go.RowKit

section
variable {t : Bv}
theorem put_sum (x : Int) : (t.put x).l.length + (t.put x).lost = t.l.length + t.lost + 1 := by
  unfold Bv.put
  split
  · simp [Bv.lose]; omega
  · simp [Bv.add]; omega
theorem put_lost (x : Int) : (t.put x).lost ≤ t.lost + 1 := by
  unfold Bv.put
  split
  · simp [Bv.lose]
  · simp [Bv.add]
theorem take_lost (i : Int) : (t.take i).lost = t.lost := by
  unfold Bv.take
  split <;> rfl
theorem take_sum (i : Int) : (t.take i).l.length + (if t.inb i then 1 else 0) = t.l.length := by
  unfold Bv.take
  cases hi : t.inb i with
  | false => simp
  | true =>
    unfold Bv.inb at hi
    simp at hi
    simp only [if_true, List.length_append, List.length_take, List.length_drop]
    omega
theorem double_lost (i : Int) : (t.double i).lost = t.lost := by
  unfold Bv.double
  split
  · split <;> rfl
  · rfl
theorem double_sum (i : Int) : (t.double i).l.length = t.l.length + (if (t.why i == 0) = true then 1 else 0) := by
  unfold Bv.double Bv.why
  cases t.inb i
  · simp
  · cases t.full
    · simp [Bv.add]
    · simp
end
/-- What is counted. -/
def Kp (i a b : Nat) (t : Bv) : Prop := a = b + t.l.length + t.lost ∧ a ≤ i
section
variable {i a b : Nat} {t : Bv}
theorem Kp.put (h : Kp i a b t) (x : Int) : Kp (i + 1) (a + 1) b (t.put x) := by
  have := put_sum (t := t) x
  obtain ⟨h1, h2⟩ := h
  exact ⟨by omega, by omega⟩
theorem Kp.take (h : Kp i a b t) (x : Int) : Kp (i + 1) a (b + if t.inb x then 1 else 0) (t.take x) := by
  have := take_sum (t := t) x
  have := take_lost (t := t) x
  obtain ⟨h1, h2⟩ := h
  exact ⟨by omega, by omega⟩
theorem Kp.double (h : Kp i a b t) (x : Int) : Kp (i + 1) (a + if (t.why x == 0) = true then 1 else 0) b (t.double x) := by
  have := double_sum (t := t) x
  have := double_lost (t := t) x
  obtain ⟨h1, h2⟩ := h
  refine ⟨by omega, ?_⟩
  split <;> omega
theorem Kp.clear (h : Kp i a b t) : Kp (i + 1) a (b + t.l.length) t.clear := by
  obtain ⟨h1, h2⟩ := h
  refine ⟨?_, by omega⟩
  show a = b + t.l.length + 0 + t.lost
  omega
theorem Kp.skip (h : Kp i a b t) : Kp (i + 1) a b t := ⟨h.1, by have := h.2; omega⟩
end
theorem keeps_early (A : Option Addr) (n2 c2 : Nat) (w : World) (h : 300 < n2) :
    Calls Try.prog 4 #[.slice A n2 c2] w fun e w' => e = .returned (.bool true) ∧ Below w.heap.size w w' := by
  have HL := Lib.hid (lives18 w)
  have d3 : decide (300 < n2) = true := by simp; omega
  have d4 : ¬ n2 ≤ 300 := by omega
  have d6 : decide (300 < (n2 : Int)) = true := by simp; omega
  go_enter Try.func4, Try.ntmps4
  go_wp2_with (first
    | (go_at_call 5; refine HL.out.mono ?_; rintro e w3 ⟨rfl, hb3⟩)
    | fail)
  go_ret
  exact ⟨rfl, hb3⟩
set_option maxHeartbeats 4000000 in
set_option maxRecDepth 8000 in
theorem keeps_late (A : Option Addr) (n2 c2 : Nat) (ps : List (Int × Int)) (w : World) (h2 : Rd w w.heap.size 2 A n2 c2 (pairs ps)) (hps : ps.length = n2) (hn2 : n2 ≤ 300) :
    Calls Try.prog 4 #[.slice A n2 c2] w fun e w' => e = .returned (.bool true) ∧ Below w.heap.size w w' := by
  have d1 : decide (300 < n2) = false := by simp; omega
  have d4 : ¬ 300 < n2 := by omega
  have HPS := Lib.hid hps
  have HN := Lib.hid (St.new 9 w (by omega) (by omega))
  have H2 := Lib.hid h2
  have HN2 := Lib.hid hn2
  clear hps h2 hn2
  go_enter Try.func4, Try.ntmps4
  obtain ⟨B, hB⟩ : ∃ B, B = w.heap.size := ⟨_, rfl⟩
  rw [← hB] at HN H2
  have HB := Lib.hid hB
  clear hB
  go_wp2_with (first
    | (go_at_call 6; refine HN.out.mono ?_; clear HN; rintro e w2 ⟨rfl, hs0⟩; have S0 := Lib.hid hs0; clear hs0)
    | fail)
  go_loopw [4, 5, 19] (fun ar br ir wr => ∃ (i a b : Nat) (t : Bv), i ≤ n2 ∧ ir = .int .i64 (i : Int) ∧ ar = .int .i64 (a : Int) ∧ br = .int .i64 (b : Int) ∧ Hid (Kp i a b t) ∧ Hid (St B w wr B t)) (fun _ _ ir _ => n2 - (intOf ir).toNat)
  case atStart => exact ⟨0, 0, 0, _, Nat.zero_le _, rfl, rfl, rfl, Lib.hid ⟨rfl, Nat.le_refl _⟩, S0⟩
  case round =>
    clear S0
    obtain ⟨i, a, b, t, hi, rfl, rfl, rfl, HK, S⟩ := hrel
    by_cases hlt : i < n2
    · obtain ⟨⟨kd, nn⟩, hp⟩ : ∃ p, ps[i]? = some p := ⟨_, List.getElem?_eq_getElem (by rw [HPS.out]; exact hlt)⟩
      have hpg := pairs_get ps i (kd, nn) hp
      have hbel : Below B w wr := by obtain ⟨_, _, h, _⟩ := S.out; exact h
      obtain ⟨bb, o, rfl, hbl, hcell⟩ := (H2.out.below hbel).2.2.2 (by omega)
      have c0 : wr.cell? ⟨bb, o + i * 2, none⟩ = some (.int .i64 kd) := hcell _ _ hpg.1
      have c1 : wr.cell? ⟨bb, o + i * 2 + 1, none⟩ = some (.int .i64 nn) := by rw [Nat.add_assoc]; exact hcell _ _ hpg.2
      clear hp hpg hcell hbl hbel
      have hal : a ≤ 300 := by have := HK.out.2; have := HN2.out; omega
      have hlost : t.lost < 1000000 := by have := HK.out.1; omega
      have hbl : b ≤ 300 := by have := HK.out.1; omega
      have hle : t.l.length ≤ 300 := by have := HK.out.1; omega
      have ha3 : (a : Int) ≤ 1000 := by omega
      have hb3 : (b : Int) ≤ 1000 := by omega
      have hl3 : (t.l.length : Int) ≤ 1000 := by omega
      have SW := Lib.hid (S.out.below (show Below wr.heap.size wr (wr.alloc (.cells #[.int .i64 kd, .int .i64 nn] 29)) from (Below.refl _ _).alloc (Nat.le_refl _) _))
      by_cases k0 : kd = 0
      · subst k0
        have HP := Lib.hid (SW.out.put nn hlost rfl)
        clear hal hlost hbl hle SW
        go_wp2_with (first
          | (go_at_call 7; refine HP.out.mono ?_; clear HP; rintro e w3 ⟨rfl, hs3⟩; have S3 := Lib.hid hs3; clear hs3)
          | fail)
        go_roundw
        case rel => exact ⟨i + 1, a + 1, b, _, by omega, by go_num, by go_num, rfl, Lib.hid (HK.out.put nn), S3⟩
        case measure => simp [intOf]; omega
      · have e0 : (kd == 0) = false := by simpa using k0
        by_cases k1 : kd = 1
        · subst k1
          have HP := Lib.hid (SW.out.take nn rfl rfl)
          have HKT := Lib.hid (HK.out.take nn)
          generalize t.get nn = y at *
          generalize t.inb nn = bq at *
          clear hal hlost hbl hle SW k0
          cases bq with
          | true =>
            go_wp2_with (first
              | (go_at_call 8; refine HP.out.mono ?_; clear HP; rintro e w3 ⟨rfl, hs3⟩; have S3 := Lib.hid hs3; clear hs3)
              | fail)
            go_roundw
            case rel => exact ⟨i + 1, a, b + 1, _, by omega, by go_num, rfl, by go_num, HKT, S3⟩
            case measure => simp [intOf]; omega
          | false =>
            go_wp2_with (first
              | (go_at_call 8; refine HP.out.mono ?_; clear HP; rintro e w3 ⟨rfl, hs3⟩; have S3 := Lib.hid hs3; clear hs3)
              | fail)
            go_roundw
            case rel => exact ⟨i + 1, a, b, _, by omega, by go_num, rfl, rfl, HKT, S3⟩
            case measure => simp [intOf]; omega
        · have e1 : (kd == 1) = false := by simpa using k1
          by_cases k2 : kd = 2
          · subst k2
            have HP := Lib.hid (SW.out.double nn rfl)
            have HKT := Lib.hid (HK.out.double nn)
            generalize t.why nn = y at *
            clear hal hlost hbl hle SW k0 k1
            cases hy : (y == 0) with
            | true =>
              rw [hy] at HKT
              go_wp2_with (first
                | (go_at_call 9; refine HP.out.mono ?_; clear HP; rintro e w3 ⟨rfl, hs3⟩; have S3 := Lib.hid hs3; clear hs3)
                | fail)
              go_roundw
              case rel => exact ⟨i + 1, a + 1, b, _, by omega, by go_num, by go_num, rfl, HKT, S3⟩
              case measure => simp [intOf]; omega
            | false =>
              rw [hy] at HKT
              go_wp2_with (first
                | (go_at_call 9; refine HP.out.mono ?_; clear HP; rintro e w3 ⟨rfl, hs3⟩; have S3 := Lib.hid hs3; clear hs3)
                | fail)
              go_roundw
              case rel => exact ⟨i + 1, a, b, _, by omega, by go_num, rfl, rfl, HKT, S3⟩
              case measure => simp [intOf]; omega
          · have e2 : (kd == 2) = false := by simpa using k2
            by_cases k3 : kd = 3
            · subst k3
              have HP := Lib.hid (SW.out.clear rfl)
              have HKT := Lib.hid (HK.out.clear)
              have HT := Lib.hid (show t.clear = t.clear from rfl)
              clear hal hlost hbl hle SW k0 k1 k2
              go_wp2_with (first
                | (go_at_call 10; refine HP.out.mono ?_; clear HP; rintro e w3 ⟨rfl, hs3⟩; have S3 := Lib.hid hs3; clear hs3)
                | fail)
              go_roundw
              case rel => exact ⟨i + 1, a, b + t.l.length, _, by omega, by go_num, rfl, by go_num, HKT, S3⟩
              case measure => simp [intOf]; omega
            · have e3 : (kd == 3) = false := by simpa using k3
              clear hal hlost hbl hle k0 k1 k2 k3
              go_wp2_with (fail)
              go_roundw
              case rel => exact ⟨i + 1, a, b, _, by omega, by go_num, rfl, rfl, Lib.hid HK.out.skip, SW⟩
              case measure => simp [intOf]; omega
    · obtain rfl : i = n2 := by omega
      have HLen := Lib.hid (S.out.len rfl)
      have HLos := Lib.hid (S.out.nlost rfl)
      have HLV := Lib.hid (lives18 wr)
      have hk := HK.out.1
      have hal : a ≤ 300 := by have := HK.out.2; have := HN2.out; omega
      have hq : ((a : Int) == (b : Int) + (t.l.length : Int) + (t.lost : Int)) = true := by simp; omega
      have g1 : (a : Int) ≤ 1000 := by omega
      have g2 : (b : Int) + (t.l.length : Int) + (t.lost : Int) ≤ 1000 := by omega
      have g3 : (b : Int) + (t.l.length : Int) ≤ 1000 := by omega
      have g4 : (t.lost : Int) ≤ 1000 := by omega
      clear hk hal
      generalize t.l.length = x at *
      generalize t.lost = y at *
      go_wp2_with (first
        | (go_at_call 15; refine HLen.out.mono ?_; rintro e w3 ⟨rfl, rfl⟩)
        | (go_at_call 16; refine HLos.out.mono ?_; rintro e w3 ⟨rfl, rfl⟩)
        | (go_at_call 5; refine HLV.out.mono ?_; rintro e w4 ⟨rfl, hb4⟩)
        | fail)
      go_ret
      obtain ⟨_, _, h2, h3⟩ := S.out
      rw [HB.out] at h2 h3
      exact ⟨rfl, h2.trans (hb4.mono h3)⟩
theorem bagKeeps_walk {w : World} (A : Option Addr) (n2 c2 : Nat) (ps : List (Int × Int)) (h2 : Rd w w.heap.size 2 A n2 c2 (pairs ps)) (hps : ps.length = n2 ∧ ∀ p ∈ ps, (Lit.int .i64 p.2).wf = true) :
    Calls Try.prog 4 #[.slice A n2 c2] w fun e w' => e = .returned (.bool true) ∧ Below w.heap.size w w' := by
  by_cases h : 300 < n2
  · exact keeps_early A n2 c2 w h
  · exact keeps_late A n2 c2 ps w h2 hps.1 (by omega)
namespace bagKeeps
open Go.ChangeShapes Go.WideShapes Go.ChangeAt
set_option maxRecDepth 100000 in
theorem lifted (os : Os) (started : os.Started) (H : Type) (enc : TypeId × Value → H) :
    ReturnsInHanded {} Try.checked os 4 .any (Rows.bagKeepsSpec.pre6 enc Try.prog Try.f4 Rows.bagKeepsRow.domain false) (Rows.bagKeepsSpec.post enc Try.prog Try.f4 false true false false) := by
  refine returnsInHanded_of_change (C := Try.checked) own started (by kernel_rfl) Try.func4
    (ChangeSpec.witness6 (enc := enc) (C := Try.checked) false ⟨#[], #[.slice none 0 0], []⟩ 8 (by kernel_rfl) (by kernel_rfl) (by kernel_rfl) (by kernel_rfl)) ?_
  intro W base args ds gs before hval0 hW _ _
  have hval : ∀ (j : Nat) t v, Try.f4.params[j]? = some t → args[j]? = some v → Value.okWide Try.prog W .any base t v := hval0
  have hW' := hW
  obtain ⟨p, q, hA0, hV, rfl, hfz, hnd⟩ := hW
  have hA : DataW.TrodAll enc Try.prog W 0 (fun _ => true) true Try.f4.params.toList args.toList ds p := hA0
  rw [Try.params4] at hA hval
  obtain ⟨v0, vs0, d0, ds0, p0, q0, hargs, rfl, rfl, h0, r0⟩ := trodAll_cons hA
  obtain ⟨rfl, rfl, rfl⟩ := trodAll_nil r0
  obtain rfl : args = #[v0] := by cases args; simp_all
  obtain ⟨rfl, rfl⟩ := trodVars_none hV
  have k0 := h0
  have lt0 : ∀ x ∈ p0, x.block < W.heap.size := by obtain ⟨m, hm⟩ := k0; exact DataW.trod_lt m _ _ _ hm
  obtain ⟨a0, n0, c0, l0, rfl, w0, b0⟩ := dec_pairs2 Try.underlying22 Try.underlying29 (by kernel_rfl) (by kernel_rfl) Try.underlying3 Try.underlying3 (hval 0 22 v0 rfl rfl) h0
  clear hA0 hval0
  refine (bagKeeps_walk a0 n0 c0 l0 w0 b0).mono fun e W' ⟨he, bel⟩ => ?_
  subst he
  exact ⟨_, rfl, _, _, _, [], _, [], hW', trodAll_mk1 (shut_bool Try.underlying4 _), (trodAll_cons_mk (Below.trod laidOut (by kernel_rfl) (of_decide_eq_true (by kernel_rfl)) k0 bel lt0) trodAll_mk0), rfl, bel.frame _, fun h => by cases h⟩

theorem over : Rows.bagKeepsRow.holds Try.pinned (OpenSpec.ofChange Rows.bagKeepsSpec) :=
  OpenClaim.holds_of_wide 4 Try.f4 rfl rfl rfl rfl rfl rfl rfl ⟨rfl, rfl, rfl, rfl, rfl⟩ rfl rfl rfl rfl rfl (by kernel_rfl) Try.func4 (by kernel_rfl)
    (of_decide_eq_true (by kernel_rfl)) (by unfold Func.isWrapper; first | (rw [if_pos (by decide +kernel)]; kernel_rfl) | (rw [if_neg (by decide +kernel)]; exact ⟨rfl, rfl⟩))
    (fun os started H enc _ => lifted os started H enc)
/-- The given statement. -/
theorem proved : Rows.BagKeepsSaid := over
end bagKeeps

end Go.Proofs.Ytdddknncndjbcaa
