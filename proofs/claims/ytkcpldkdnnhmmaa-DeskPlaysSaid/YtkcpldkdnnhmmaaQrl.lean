/- The reference's Least. -/
import Derived.Test.YtkcpldkdnnhmmaaQ20
namespace Go.Proofs.Ytkcpldkdnnhmmaa.Qu
open Go.RowKit
set_option maxRecDepth 20000

/-- The numbers of all nodes, in a row. -/
structure At64 (w : World) (p : Nat) (v : Nat → Nat) : Prop where
  here : p < w.heap.size
  cell : ∀ k, k < 64 → w.cell? ⟨p, k, none⟩ = some (.int .u64 ((v k : Nat) : Int))
theorem At64.below {w w1 : World} {p : Nat} {v : Nat → Nat} (h : At64 w p v) (hb : Below w.heap.size w w1) : At64 w1 p v :=
  ⟨Nat.lt_of_lt_of_le h.here hb.size, fun k hk => kept hb (h.cell k hk) h.here⟩
theorem cge_snoc (l : List Nat) (z y : Nat) : cge (l ++ [z]) y = cge l y + if decide (y ≤ z) = true then 1 else 0 := by
  unfold cge; rw [List.countP_append, List.countP_singleton]
theorem best_snoc (L l : List Nat) (y : Nat) : bestOf L (l ++ [y]) = best1 L (bestOf L l) y := by
  unfold bestOf; rw [List.foldl_append]; rfl
set_option maxHeartbeats 4000000 in
theorem rleast_any {w : World} {p : Nat} {v : Nat → Nat} (s : Nat) (hs : s < 18446744073709551616) (h : At64 w p v) :
    Calls Try.prog 30 #[.int .u64 (s : Int), .slice (some ⟨p, 0, none⟩) 64 64] w fun e w' => e = .returned (.int .u64 ((bestOf ((memb s).map v) ((memb s).map v) : Nat) : Int)) ∧ Below w.heap.size w w' := by
  have HM := Lib.hid (rmembers_any s w hs)
  have HA := Lib.hid h
  have hl64 : (memb s).length ≤ 64 := by rw [memb_len]; exact pop64_le s
  have HLT := Lib.hid (fun k hk => memb_lt (s := s) (i := k) hk)
  have HML := Lib.hid (mem_64 s)
  obtain ⟨R, hR⟩ : ∃ R, R = bestOf ((memb s).map v) ((memb s).map v) := ⟨_, rfl⟩
  rw [← hR]
  have HR := Lib.hid hR
  clear hs h hR
  generalize mem_ s 64 = l at *
  generalize memb s = m at *
  go_enter Try.func30, Try.ntmps30
  go_wp2_with (go_at_call 48; refine HM.out.mono ?_; clear HM; rintro e w1 ⟨A, c, rfl, hown, hbel⟩)
  have hlm : l.length = m.length := by rw [HML.out, List.length_map]
  rw [hlm] at hown ⊢
  have H1 : Hid (∀ i, i < m.length → ∃ b o k, A = some ⟨b, o, none⟩ ∧ b < w1.heap.size ∧ m[i]? = some k ∧ k < 64 ∧ w1.cell? ⟨b, o + i, none⟩ = some (.int .i64 (k : Int))) := Lib.hid (fun i hi => by
    obtain ⟨p1, o1, v1, h1, hp1, hv1, hc1⟩ := (ownsRow_rd hown).at_ hi
    rw [HML.out] at hv1
    unfold is at hv1
    rw [List.map_map, List.getElem?_map] at hv1
    cases hx : m[i]? with
    | none => rw [hx] at hv1; cases hv1
    | some x =>
      rw [hx] at hv1
      exact ⟨p1, o1, x, h1, hp1, rfl, HLT.out x (List.mem_of_getElem? hx), by rw [hc1, ← hv1]; rfl⟩)
  have HA1 := Lib.hid (HA.out.below hbel)
  have HB := Lib.hid hbel
  obtain ⟨n, hn⟩ : ∃ n, n = m.length := ⟨_, rfl⟩
  have HLL := Lib.hid (show (m.map v).length = n by rw [List.length_map, hn])
  have HG := Lib.hid (fun (i k : Nat) (hk : m[i]? = some k) => (show (m.map v)[i]? = some (v k) by rw [List.getElem?_map, hk]; rfl))
  rw [← hn] at H1 hl64 ⊢
  clear hown hbel hn hlm HML HA HLT
  generalize m.map v = L at *
  go_loopw [5, 7] (fun br ir wr => ∃ i : Nat, i ≤ n ∧ ir = .int .i64 (i : Int) ∧ br = .int .u64 ((bestOf L (L.take i) : Nat) : Int) ∧ Hid (Below w1.heap.size w1 wr)) (fun _ ir _ => n - (intOf ir).toNat)
  case atStart => exact ⟨0, Nat.zero_le _, rfl, rfl, Lib.hid (Below.refl _ _)⟩
  case round =>
    obtain ⟨i, hi, rfl, rfl, RB⟩ := hrel
    by_cases hlt : i < n
    · obtain ⟨p1, o1, ki, hA1, hp1, hmi, hki, hci⟩ := H1.out i hlt
      subst hA1
      have hLi := HG.out i ki hmi
      have hbs : bestOf L (L.take (i + 1)) = best1 L (bestOf L (L.take i)) (v ki) := by
        obtain ⟨hil, hLe⟩ := List.getElem?_eq_some_iff.1 hLi
        rw [List.take_succ_eq_append_getElem hil, best_snoc, hLe]
      have HBS := Lib.hid hbs
      have HCI := Lib.hid hci
      have HVI := Lib.hid (HA1.out.cell ki hki)
      have d1 : decide (i < n) = true := decide_eq_true hlt
      have k1 : (ki : Int) < 64 := by omega
      have k2 : (0 : Int) ≤ (ki : Int) := by omega
      have hnI : (n : Int) ≤ 64 := by omega
      have hiI : (i : Int) < (n : Int) := by omega
      have HPL := Lib.hid hp1
      obtain ⟨wo, rfl⟩ : ∃ wo : World, wo = wr := ⟨_, rfl⟩
      clear hmi hLi hbs hci hki hp1
      generalize v ki = yi at *
      go_wp2_with (fail)
      go_loopw [8, 9] (fun cr jr wr => ∃ j : Nat, j ≤ n ∧ jr = .int .i64 (j : Int) ∧ cr = .int .i64 ((cge (L.take j) yi : Nat) : Int) ∧ Hid (Below w1.heap.size w1 wr)) (fun _ jr _ => n - (intOf jr).toNat)
      case atStart => exact ⟨0, Nat.zero_le _, rfl, rfl, RB⟩
      case round =>
        clear RB
        obtain ⟨j, hj, rfl, rfl, RB⟩ := hrel
        have hcl : cge (L.take j) yi ≤ 64 := by have := cge_le (L.take j) yi; rw [List.length_take] at this; have := HLL.out; omega
        by_cases hjn : j < n
        · obtain ⟨p2, o2, kj, hA2, hp2, hmj, hkj, hcj⟩ := H1.out j hjn
          cases hA2
          have hLj := HG.out j kj hmj
          have hst : cge (L.take (j + 1)) yi = cge (L.take j) yi + if decide (yi ≤ v kj) = true then 1 else 0 := by
            obtain ⟨hjl, hLe⟩ := List.getElem?_eq_some_iff.1 hLj
            rw [List.take_succ_eq_append_getElem hjl, cge_snoc, hLe]
          have HST := Lib.hid hst
          have ci := kept RB.out HCI.out HPL.out
          have cj := kept RB.out hcj hp2
          have vi := kept RB.out HVI.out HA1.out.here
          have vj := kept RB.out (HA1.out.cell kj hkj) HA1.out.here
          have k3 : (kj : Int) < 64 := by omega
          have k4 : (0 : Int) ≤ (kj : Int) := by omega
          have d2 : decide (j < n) = true := decide_eq_true hjn
          have hjI : (j : Int) < (n : Int) := by omega
          clear hmj hLj hst hcj hkj hp2
          generalize v kj = yj at *
          generalize cge (L.take j) yi = q at *
          by_cases hle : yi ≤ yj
          · have g1 : decide (yi ≤ yj) = true := decide_eq_true hle
            have g2 : decide ((yi : Int) ≤ (yj : Int)) = true := decide_eq_true (by omega)
            rw [g1] at HST
            clear hle
            go_wp2_with (fail)
            go_quiet (fail)
            go_wp2
            go_roundw
            case rel => exact ⟨j + 1, by omega, by go_num, by rw [HST.out]; simp, Lib.hid ⟨RB.out.os, RB.out.tape, RB.out.output, RB.out.size, RB.out.block⟩⟩
            case measure => simp [intOf]; omega
          · have g1 : decide (yi ≤ yj) = false := decide_eq_false hle
            have g2 : decide ((yi : Int) ≤ (yj : Int)) = false := decide_eq_false (by omega)
            rw [g1] at HST
            clear hle
            go_wp2_with (fail)
            go_quiet (fail)
            go_wp2
            go_roundw
            case rel => exact ⟨j + 1, by omega, by go_num, by rw [HST.out]; rfl, Lib.hid ⟨RB.out.os, RB.out.tape, RB.out.output, RB.out.size, RB.out.block⟩⟩
            case measure => simp [intOf]; omega
        · obtain rfl : j = n := by omega
          have hT : L.take j = L := List.take_of_length_le (by have := HLL.out; omega)
          rw [hT] at hcl ⊢
          have d2 : decide (j < j) = false := by simp
          have ci := kept RB.out HCI.out HPL.out
          have vi := kept RB.out HVI.out HA1.out.here
          have HB1 : Hid (best1 L (bestOf L (L.take i)) yi = if j < 2 * cge L yi then max (bestOf L (L.take i)) yi else bestOf L (L.take i)) := Lib.hid (by unfold best1; rw [HLL.out])
          clear hjn hT
          generalize bestOf L (L.take i) = bb at *
          generalize cge L yi = q at *
          by_cases hq : j < 2 * q
          · have g1 : decide ((j : Int) < 2 * (q : Int)) = true := decide_eq_true (by omega)
            have g2 : decide (j < 2 * q) = true := decide_eq_true hq
            have hb1 := HB1.out
            rw [if_pos hq] at hb1
            have HB2 := Lib.hid (HBS.out.trans hb1)
            clear hq hb1
            by_cases hm : bb < yi
            · have e1 : max bb yi = yi := by omega
              have e2 : max (bb : Int) (yi : Int) = (yi : Int) := by omega
              have e3 : ¬ yi ≤ bb := by omega
              have e4 : (bb : Int) < (yi : Int) := by omega
              rw [e1] at HB2
              clear e1 hm
              go_wp2_with (fail)
              go_roundw
              case rel => exact ⟨i + 1, by omega, by go_num, by rw [HB2.out], RB⟩
              case measure => simp [intOf]; omega
            · have e1 : max bb yi = bb := by omega
              have e2 : max (bb : Int) (yi : Int) = (bb : Int) := by omega
              have e3 : yi ≤ bb := by omega
              have e4 : ¬ (bb : Int) < (yi : Int) := by omega
              rw [e1] at HB2
              clear e1 hm
              go_wp2_with (fail)
              go_roundw
              case rel => exact ⟨i + 1, by omega, by go_num, by rw [HB2.out], RB⟩
              case measure => simp [intOf]; omega
          · have g1 : decide ((j : Int) < 2 * (q : Int)) = false := decide_eq_false (by omega)
            have g2 : decide (j < 2 * q) = false := decide_eq_false hq
            have hb1 := HB1.out
            rw [if_neg hq] at hb1
            have HB2 := Lib.hid (HBS.out.trans hb1)
            clear hq hb1
            go_wp2_with (fail)
            go_roundw
            case rel => exact ⟨i + 1, by omega, by go_num, by rw [HB2.out], RB⟩
            case measure => simp [intOf]; omega
    · obtain rfl : i = n := by omega
      have hT : L.take i = L := List.take_of_length_le (by have := HLL.out; omega)
      rw [hT]
      have HE := Lib.hid HR.out
      have d1 : decide (i < i) = false := by simp
      clear hlt hT
      go_wp2
      go_ret
      exact ⟨ret_u64 (by rw [HE.out]), HB.out.trans (RB.out.mono HB.out.size)⟩
end Go.Proofs.Ytkcpldkdnnhmmaa.Qu
