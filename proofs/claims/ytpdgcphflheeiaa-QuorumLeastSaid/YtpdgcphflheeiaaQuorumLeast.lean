/- QuorumLeast: what a majority of any nodes has at least is the document's, for every input. -/
import Derived.Test.YtpdgcphflheeiaaQ9
import Derived.Test.YtpdgcphflheeiaaQw
namespace Go.Proofs.Ytpdgcphflheeiaa
open Go.RowKit
set_option maxRecDepth 20000

/-- The numbers of all nodes, in a row. -/
structure At64 (w : World) (p : Nat) (v : Nat → Nat) : Prop where
  here : p < w.heap.size
  cell : ∀ k, k < 64 → w.cell? ⟨p, k, none⟩ = some (.int .u64 ((v k : Nat) : Int))
theorem At64.below {w w1 : World} {p : Nat} {v : Nat → Nat} (h : At64 w p v) (hb : Below w.heap.size w w1) : At64 w1 p v :=
  ⟨Nat.lt_of_lt_of_le h.here hb.size, fun k hk => kept hb (h.cell k hk) h.here⟩
theorem closQ {w : World} {p : Nat} {v : Nat → Nat} (h : At64 w p v) (k : Nat) (hk : k < 64) :
    Calls Try.prog 18 #[.int .i64 (k : Int), .pointer (some ⟨p, 0, none⟩)] w fun e w' => e = .returned (.int .u64 ((v k : Nat) : Int)) ∧ w = w' := by
  have c := h.cell k hk
  have m1 : max (k : Int) 0 = (k : Int) := by omega
  have m2 : min (k : Int) 63 = (k : Int) := by omega
  have b1 : (k : Int) < 64 := by omega
  have b2 : (k : Int) ≤ 63 := by omega
  clear h
  generalize v k = x at *
  go_enter Try.func18, Try.ntmps18
  go_wp2
  go_ret
  exact ⟨rfl, rfl⟩
theorem cge_snoc (l : List Nat) (z y : Nat) : cge (l ++ [z]) y = cge l y + if decide (y ≤ z) = true then 1 else 0 := by
  unfold cge; rw [List.countP_append, List.countP_singleton]
theorem best_snoc (L l : List Nat) (y : Nat) : bestOf L (l ++ [y]) = best1 L (bestOf L l) y := by
  unfold bestOf; rw [List.foldl_append]; rfl
set_option maxHeartbeats 4000000 in
theorem rleast_any {w : World} {p : Nat} {v : Nat → Nat} (s : Nat) (hs : s < 18446744073709551616) (h : At64 w p v) :
    Calls Try.prog 19 #[.int .u64 (s : Int), .slice (some ⟨p, 0, none⟩) 64 64] w fun e w' => e = .returned (.int .u64 ((bestOf ((memb s).map v) ((memb s).map v) : Nat) : Int)) ∧ Below w.heap.size w w' := by
  have HM := Lib.hid (rmembers_any s w hs)
  have HA := Lib.hid h
  have hl64 : (memb s).length ≤ 64 := by rw [memb_len]; exact pop64_le s
  have HLT := Lib.hid (fun k hk => memb_lt (s := s) (i := k) hk)
  have HML := Lib.hid (mem_64 s)
  obtain ⟨R, hR⟩ : ∃ R, R = bestOf ((memb s).map v) ((memb s).map v) := ⟨_, rfl⟩
  rw [← hR]
  have HR := Lib.hid hR
  clear hs h hR
  generalize mem_ s 64 = l at *
  generalize memb s = m at *
  go_enter Try.func19, Try.ntmps19
  go_wp2_with (go_at_call 10; refine HM.out.mono ?_; clear HM; rintro e w1 ⟨A, c, rfl, hown, hbel⟩)
  have hlm : l.length = m.length := by rw [HML.out, List.length_map]
  rw [hlm] at hown ⊢
  have H1 : Hid (∀ i, i < m.length → ∃ b o k, A = some ⟨b, o, none⟩ ∧ b < w1.heap.size ∧ m[i]? = some k ∧ k < 64 ∧ w1.cell? ⟨b, o + i, none⟩ = some (.int .i64 (k : Int))) := Lib.hid (fun i hi => by
    obtain ⟨p1, o1, v1, h1, hp1, hv1, hc1⟩ := (ownsRow_rd hown).at_ hi
    rw [HML.out] at hv1
    unfold is at hv1
    rw [List.map_map, List.getElem?_map] at hv1
    cases hx : m[i]? with
    | none => rw [hx] at hv1; cases hv1
    | some x =>
      rw [hx] at hv1
      exact ⟨p1, o1, x, h1, hp1, rfl, HLT.out x (List.mem_of_getElem? hx), by rw [hc1, ← hv1]; rfl⟩)
  have HA1 := Lib.hid (HA.out.below hbel)
  have HB := Lib.hid hbel
  obtain ⟨n, hn⟩ : ∃ n, n = m.length := ⟨_, rfl⟩
  have HLL := Lib.hid (show (m.map v).length = n by rw [List.length_map, hn])
  have HG := Lib.hid (fun (i k : Nat) (hk : m[i]? = some k) => (show (m.map v)[i]? = some (v k) by rw [List.getElem?_map, hk]; rfl))
  rw [← hn] at H1 hl64 ⊢
  clear hown hbel hn hlm HML HA HLT
  generalize m.map v = L at *
  go_loopw [5, 7] (fun br ir wr => ∃ i : Nat, i ≤ n ∧ ir = .int .i64 (i : Int) ∧ br = .int .u64 ((bestOf L (L.take i) : Nat) : Int) ∧ Hid (Below w1.heap.size w1 wr)) (fun _ ir _ => n - (intOf ir).toNat)
  case atStart => exact ⟨0, Nat.zero_le _, rfl, rfl, Lib.hid (Below.refl _ _)⟩
  case round =>
    obtain ⟨i, hi, rfl, rfl, RB⟩ := hrel
    by_cases hlt : i < n
    · obtain ⟨p1, o1, ki, hA1, hp1, hmi, hki, hci⟩ := H1.out i hlt
      subst hA1
      have hLi := HG.out i ki hmi
      have hbs : bestOf L (L.take (i + 1)) = best1 L (bestOf L (L.take i)) (v ki) := by
        obtain ⟨hil, hLe⟩ := List.getElem?_eq_some_iff.1 hLi
        rw [List.take_succ_eq_append_getElem hil, best_snoc, hLe]
      have HBS := Lib.hid hbs
      have HCI := Lib.hid hci
      have HVI := Lib.hid (HA1.out.cell ki hki)
      have d1 : decide (i < n) = true := decide_eq_true hlt
      have k1 : (ki : Int) < 64 := by omega
      have k2 : (0 : Int) ≤ (ki : Int) := by omega
      have hnI : (n : Int) ≤ 64 := by omega
      have hiI : (i : Int) < (n : Int) := by omega
      have HPL := Lib.hid hp1
      obtain ⟨wo, rfl⟩ : ∃ wo : World, wo = wr := ⟨_, rfl⟩
      clear hmi hLi hbs hci hki hp1
      generalize v ki = yi at *
      go_wp2_with (fail)
      go_loopw [8, 9] (fun cr jr wr => ∃ j : Nat, j ≤ n ∧ jr = .int .i64 (j : Int) ∧ cr = .int .i64 ((cge (L.take j) yi : Nat) : Int) ∧ Hid (Below w1.heap.size w1 wr)) (fun _ jr _ => n - (intOf jr).toNat)
      case atStart => exact ⟨0, Nat.zero_le _, rfl, rfl, RB⟩
      case round =>
        clear RB
        obtain ⟨j, hj, rfl, rfl, RB⟩ := hrel
        have hcl : cge (L.take j) yi ≤ 64 := by have := cge_le (L.take j) yi; rw [List.length_take] at this; have := HLL.out; omega
        by_cases hjn : j < n
        · obtain ⟨p2, o2, kj, hA2, hp2, hmj, hkj, hcj⟩ := H1.out j hjn
          cases hA2
          have hLj := HG.out j kj hmj
          have hst : cge (L.take (j + 1)) yi = cge (L.take j) yi + if decide (yi ≤ v kj) = true then 1 else 0 := by
            obtain ⟨hjl, hLe⟩ := List.getElem?_eq_some_iff.1 hLj
            rw [List.take_succ_eq_append_getElem hjl, cge_snoc, hLe]
          have HST := Lib.hid hst
          have ci := kept RB.out HCI.out HPL.out
          have cj := kept RB.out hcj hp2
          have vi := kept RB.out HVI.out HA1.out.here
          have vj := kept RB.out (HA1.out.cell kj hkj) HA1.out.here
          have k3 : (kj : Int) < 64 := by omega
          have k4 : (0 : Int) ≤ (kj : Int) := by omega
          have d2 : decide (j < n) = true := decide_eq_true hjn
          have hjI : (j : Int) < (n : Int) := by omega
          clear hmj hLj hst hcj hkj hp2
          generalize v kj = yj at *
          generalize cge (L.take j) yi = q at *
          by_cases hle : yi ≤ yj
          · have g1 : decide (yi ≤ yj) = true := decide_eq_true hle
            have g2 : decide ((yi : Int) ≤ (yj : Int)) = true := decide_eq_true (by omega)
            rw [g1] at HST
            clear hle
            go_wp2_with (fail)
            go_quiet (fail)
            go_wp2
            go_roundw
            case rel => exact ⟨j + 1, by omega, by go_num, by rw [HST.out]; simp, Lib.hid ⟨RB.out.os, RB.out.tape, RB.out.output, RB.out.size, RB.out.block⟩⟩
            case measure => simp [intOf]; omega
          · have g1 : decide (yi ≤ yj) = false := decide_eq_false hle
            have g2 : decide ((yi : Int) ≤ (yj : Int)) = false := decide_eq_false (by omega)
            rw [g1] at HST
            clear hle
            go_wp2_with (fail)
            go_quiet (fail)
            go_wp2
            go_roundw
            case rel => exact ⟨j + 1, by omega, by go_num, by rw [HST.out]; rfl, Lib.hid ⟨RB.out.os, RB.out.tape, RB.out.output, RB.out.size, RB.out.block⟩⟩
            case measure => simp [intOf]; omega
        · obtain rfl : j = n := by omega
          have hT : L.take j = L := List.take_of_length_le (by have := HLL.out; omega)
          rw [hT] at hcl ⊢
          have d2 : decide (j < j) = false := by simp
          have ci := kept RB.out HCI.out HPL.out
          have vi := kept RB.out HVI.out HA1.out.here
          have HB1 : Hid (best1 L (bestOf L (L.take i)) yi = if j < 2 * cge L yi then max (bestOf L (L.take i)) yi else bestOf L (L.take i)) := Lib.hid (by unfold best1; rw [HLL.out])
          clear hjn hT
          generalize bestOf L (L.take i) = bb at *
          generalize cge L yi = q at *
          by_cases hq : j < 2 * q
          · have g1 : decide ((j : Int) < 2 * (q : Int)) = true := decide_eq_true (by omega)
            have g2 : decide (j < 2 * q) = true := decide_eq_true hq
            have hb1 := HB1.out
            rw [if_pos hq] at hb1
            have HB2 := Lib.hid (HBS.out.trans hb1)
            clear hq hb1
            by_cases hm : bb < yi
            · have e1 : max bb yi = yi := by omega
              have e2 : max (bb : Int) (yi : Int) = (yi : Int) := by omega
              have e3 : ¬ yi ≤ bb := by omega
              have e4 : (bb : Int) < (yi : Int) := by omega
              rw [e1] at HB2
              clear e1 hm
              go_wp2_with (fail)
              go_roundw
              case rel => exact ⟨i + 1, by omega, by go_num, by rw [HB2.out], RB⟩
              case measure => simp [intOf]; omega
            · have e1 : max bb yi = bb := by omega
              have e2 : max (bb : Int) (yi : Int) = (bb : Int) := by omega
              have e3 : yi ≤ bb := by omega
              have e4 : ¬ (bb : Int) < (yi : Int) := by omega
              rw [e1] at HB2
              clear e1 hm
              go_wp2_with (fail)
              go_roundw
              case rel => exact ⟨i + 1, by omega, by go_num, by rw [HB2.out], RB⟩
              case measure => simp [intOf]; omega
          · have g1 : decide ((j : Int) < 2 * (q : Int)) = false := decide_eq_false (by omega)
            have g2 : decide (j < 2 * q) = false := decide_eq_false hq
            have hb1 := HB1.out
            rw [if_neg hq] at hb1
            have HB2 := Lib.hid (HBS.out.trans hb1)
            clear hq hb1
            go_wp2_with (fail)
            go_roundw
            case rel => exact ⟨i + 1, by omega, by go_num, by rw [HB2.out], RB⟩
            case measure => simp [intOf]; omega
    · obtain rfl : i = n := by omega
      have hT : L.take i = L := List.take_of_length_le (by have := HLL.out; omega)
      rw [hT]
      have HE := Lib.hid HR.out
      have d1 : decide (i < i) = false := by simp
      clear hlt hT
      go_wp2
      go_ret
      exact ⟨ret_u64 (by rw [HE.out]), HB.out.trans (RB.out.mono HB.out.size)⟩
/-- The cells of all nodes' numbers. -/
def vals (v : Nat → Nat) : List Value := (List.range 64).map fun k => .int .u64 ((v k : Nat) : Int)
theorem vals_get (v : Nat → Nat) {k : Nat} (hk : k < 64) : (vals v)[k]? = some (.int .u64 ((v k : Nat) : Int)) := by
  unfold vals
  rw [List.getElem?_map, List.getElem?_range hk]
  rfl
section
open Go.ChangeShapes Go.WideShapes Go.ChangeAt
variable {H : Type} {enc : TypeId × Value → H} {P : Program} {W : World} {r : Reach} {b0 : Nat} {ty e : TypeId} {v : Value} {d : DataW H} {p : List MemPlace}
theorem dec_arr64 (ht : P.underlying ty = some (.array 64 e)) (he : P.underlying e = some (.int .u64)) (hC : P.cellsOf ty = 64) (hc : P.cellsOf e = 1) (hok : Value.okWide P W r b0 ty v) (h : DataW.Trod enc P W 0 (fun _ => true) true ty v d p) :
    ∃ f : Nat → Nat, v = .agg (vals f).toArray ∧ ∀ k, f k < 18446744073709551616 := by
  obtain ⟨cs, rfl, hsz⟩ : ∃ cs, v = .agg cs ∧ cs.size = P.cellsOf ty := by
    simp only [Value.okWide, ht] at hok
    obtain ⟨cs, h1, h2, _⟩ := hok
    exact ⟨cs, h1, h2⟩
  rw [hC] at hsz
  obtain ⟨fuel, hf⟩ := h
  obtain ⟨xs, m, _, _, _, hlen, hel⟩ := DataW.trod_array ht hf
  have each : ∀ i, ∃ q : Nat, q < 18446744073709551616 ∧ (i < 64 → cs[i]? = some (.int .u64 (q : Int))) := by
    intro i
    by_cases hi : i < 64
    · have hx := hel i hi
      rw [hc, List.getElem?_eq_getElem (by omega)] at hx
      obtain ⟨a, ea, _, wa⟩ := DataW.trod_int he hx
      have k0 : cs[i]? = some (.int .u64 a) := by
        have h2 : (List.take 1 (List.drop (i * 1) (Value.agg cs).cells.toList))[0]? = some (.int .u64 a) := by rw [ea]; rfl
        rw [List.getElem?_take_of_lt (by decide), List.getElem?_drop] at h2
        simpa [Value.cells] using h2
      have ra := wf_nat .u64 a wa rfl
      have ra2 : a ≤ 18446744073709551615 := ra.2
      refine ⟨a.toNat, by omega, fun _ => ?_⟩
      rw [k0]
      simp only [Int.toNat_of_nonneg ra.1]
    · exact ⟨0, by decide, fun h => absurd h hi⟩
  obtain ⟨f, hf⟩ := Classical.axiomOfChoice each
  refine ⟨f, ?_, fun k => (hf k).1⟩
  congr 1
  apply Array.ext'
  apply List.ext_getElem?
  intro j
  by_cases hj : j < 64
  · rw [vals_get f hj, Array.getElem?_toList]
    exact (hf j).2 hj
  · rw [List.getElem?_eq_none (by rw [Array.length_toList]; omega), List.getElem?_eq_none (by unfold vals; simp; omega)]
end
set_option maxHeartbeats 4000000 in
theorem quorumLeast_walk {w : World} (s : Nat) (hs : s < 18446744073709551616) (v : Nat → Nat) :
    Calls Try.prog 4 #[.int .u64 (s : Int), .agg (vals v).toArray] w fun e w' => e = .returned (.bool true) ∧ Below w.heap.size w w' := by
  obtain ⟨cs, hcs⟩ : ∃ cs, cs = (vals v).toArray := ⟨_, rfl⟩
  rw [← hcs]
  obtain ⟨W, hW, hWs, r0, hwW⟩ := boxes1 w cs 32
  have hA : At64 W w.heap.size v := ⟨by omega, fun k hk => by
    rw [cell_of_row W _ k _ _ _ r0, hcs, List.getElem?_toArray]
    exact vals_get v hk⟩
  have HA := Lib.hid hA
  have HW := Lib.hid hwW
  have HL := Lib.hid (fun (V : World) (hb : Below W.heap.size W V) => leastQ_any s w.heap.size v S64 V hs (fun V2 hb2 k hk => closQ ((hA.below hb).below hb2) k (memb_lt hk)) S64_size (fun V2 g c d hd ha => sort64_any ha hd (by rw [memb_len]; have := pop64_le s; omega)))
  have HR := Lib.hid (fun (V : World) (hb : Below W.heap.size W V) => rleast_any s hs (hA.below hb))
  rw [best_mid] at HR
  have HV := Lib.hid (fun (V : World) => lives20 V)
  generalize mid S64 ((memb s).map v) = x at *
  have q1 : ((x : Int) == (x : Int)) = true := beq_self_eq_true _
  clear hs hA hcs r0 hWs hwW
  go_enter Try.func4, Try.ntmps4
  go_upto_region 1 with (fail)
  rw [← hW]
  clear hW
  refine wp_low W.heap.size [([0, 1, 3, 4], 2), ([], 5), ([6, 7], 8)] [9, 10] (by kernel_rfl) (by kernel_rfl) (fun d _ _ _ _ h => by cases d <;> exact h) (Nat.le_refl _) fun wd hbd => ?_
  intro f hf
  simp only [pickI, Option.toList_some, List.cons_append, List.nil_append, List.getElem?_toArray, List.getElem?_cons_succ, List.getElem?_cons_zero]
  repeat (go_big_quiet_step (fail))
  refine wpQuiet_nil ?_
  clear hf f
  refine seg_op (by simp only [List.getElem?_toArray, List.getElem?_cons_succ, List.getElem?_cons_zero]; rfl) fun K hK => ?_
  go_simp
  refine (HL.out _ hbd).mono ?_
  rintro e w1 ⟨rfl, hb1⟩
  have z1 := hbd.trans (hb1.mono hbd.size)
  refine hK.out _ _ (seg_keep z1 ?_)
  clear hK K hb1 hbd
  intro f hf
  simp only [pickI]
  repeat (go_big_quiet_step (fail))
  refine wpQuiet_nil ?_
  clear hf f
  refine seg_op (by simp only [List.getElem?_toArray, List.getElem?_cons_succ, List.getElem?_cons_zero]; rfl) fun K hK => ?_
  go_simp
  refine (HR.out _ z1).mono ?_
  rintro e w2 ⟨rfl, hb2⟩
  have z2 := z1.trans (hb2.mono z1.size)
  refine hK.out _ _ (seg_keep z2 ?_)
  clear hK K hb2 z1
  intro f hf
  simp only [pickI, Option.toList_some, List.cons_append, List.nil_append, List.getElem?_toArray, List.getElem?_cons_succ, List.getElem?_cons_zero]
  repeat (go_big_quiet_step (fail))
  refine wpQuiet_nil ?_
  clear hf f
  refine seg_op (by simp only [List.getElem?_toArray, List.getElem?_cons_succ, List.getElem?_cons_zero]; rfl) fun K hK => ?_
  go_simp
  refine (HV.out _).mono ?_
  rintro e w3 ⟨rfl, hb3⟩
  have z3 := z2.trans (hb3.mono z2.size)
  refine hK.out _ _ (seg_keep z3 ?_)
  clear hK K hb3 z2
  intro f hf
  simp only [pickI, Option.toList_some, List.cons_append, List.nil_append, List.getElem?_toArray, List.getElem?_cons_succ, List.getElem?_cons_zero]
  repeat (go_big_quiet_step (fail))
  refine wpQuiet_nil ?_
  clear hf f
  have HZ := Lib.hid z3
  clear z3
  go_wp2_with (fail)
  go_ret
  exact ⟨rfl, HW.out.trans (HZ.out.mono HW.out.size)⟩
theorem quorumLeast_top {w : World} (s : Nat) (hs : s < 18446744073709551616) (v : Nat → Nat) (_ : ∀ k, v k < 18446744073709551616) :
    Calls Try.prog 4 #[.int .u64 (s : Int), .agg (vals v).toArray] w fun e w' => e = .returned (.bool true) ∧ Below w.heap.size w w' := quorumLeast_walk s hs v
namespace quorumLeast
open Go.ChangeShapes Go.WideShapes Go.ChangeAt
set_option maxRecDepth 100000 in
theorem lifted (os : Os) (started : os.Started) (H : Type) (enc : TypeId × Value → H) :
    ReturnsInHanded {} Try.checked os 4 .any (Rows.quorumLeastSpec.pre6 enc Try.prog Try.f4 Rows.quorumLeastRow.domain false) (Rows.quorumLeastSpec.post enc Try.prog Try.f4 false true false false) := by
  refine returnsInHanded_of_change (C := Try.checked) own started (by kernel_rfl) Try.func4
    (ChangeSpec.witness6 (enc := enc) (C := Try.checked) false ⟨#[], #[.int .u64 0, .agg #[.int .u64 0, .int .u64 0, .int .u64 0, .int .u64 0, .int .u64 0, .int .u64 0, .int .u64 0, .int .u64 0, .int .u64 0, .int .u64 0, .int .u64 0, .int .u64 0, .int .u64 0, .int .u64 0, .int .u64 0, .int .u64 0, .int .u64 0, .int .u64 0, .int .u64 0, .int .u64 0, .int .u64 0, .int .u64 0, .int .u64 0, .int .u64 0, .int .u64 0, .int .u64 0, .int .u64 0, .int .u64 0, .int .u64 0, .int .u64 0, .int .u64 0, .int .u64 0, .int .u64 0, .int .u64 0, .int .u64 0, .int .u64 0, .int .u64 0, .int .u64 0, .int .u64 0, .int .u64 0, .int .u64 0, .int .u64 0, .int .u64 0, .int .u64 0, .int .u64 0, .int .u64 0, .int .u64 0, .int .u64 0, .int .u64 0, .int .u64 0, .int .u64 0, .int .u64 0, .int .u64 0, .int .u64 0, .int .u64 0, .int .u64 0, .int .u64 0, .int .u64 0, .int .u64 0, .int .u64 0, .int .u64 0, .int .u64 0, .int .u64 0, .int .u64 0]], []⟩ 8 (by kernel_rfl) (by kernel_rfl) (by kernel_rfl) (by kernel_rfl)) ?_
  intro W base args ds gs before hval0 hW _ _
  have hval : ∀ (j : Nat) t v, Try.f4.params[j]? = some t → args[j]? = some v → Value.okWide Try.prog W .any base t v := hval0
  have hW' := hW
  obtain ⟨p, q, hA0, hV, rfl, hfz, hnd⟩ := hW
  have hA : DataW.TrodAll enc Try.prog W 0 (fun _ => true) true Try.f4.params.toList args.toList ds p := hA0
  rw [Try.params4] at hA hval
  obtain ⟨v0, vs0, d0, ds0, p0, q0, hargs, rfl, rfl, h0, r0⟩ := trodAll_cons hA
  obtain ⟨v1, vs1, d1, ds1, p1, q1, rfl, rfl, rfl, h1, r1⟩ := trodAll_cons r0
  obtain ⟨rfl, rfl, rfl⟩ := trodAll_nil r1
  obtain rfl : args = #[v0, v1] := by cases args; simp_all
  obtain ⟨rfl, rfl⟩ := trodVars_none hV
  have k0 := h0
  have lt0 : ∀ x ∈ p0, x.block < W.heap.size := by obtain ⟨m, hm⟩ := k0; exact DataW.trod_lt m _ _ _ hm
  obtain ⟨x0, rfl, w0⟩ := dec_u64 Try.underlying22 (hval 0 22 v0 rfl rfl) h0
  have k1 := h1
  have lt1 : ∀ x ∈ p1, x.block < W.heap.size := by obtain ⟨m, hm⟩ := k1; exact DataW.trod_lt m _ _ _ hm
  obtain ⟨o1, rfl, w1⟩ := dec_arr64 Try.underlying32 Try.underlying22 (by kernel_rfl) (by kernel_rfl) (hval 1 32 v1 rfl rfl) h1
  clear hA0 hval0
  refine (quorumLeast_top x0 w0 o1 w1).mono fun e W' ⟨he, bel⟩ => ?_
  subst he
  exact ⟨_, rfl, _, _, _, [], _, [], hW', trodAll_mk1 (shut_bool Try.underlying4 _), (trodAll_cons_mk (Below.trod laidOut (by kernel_rfl) (of_decide_eq_true (by kernel_rfl)) k0 bel lt0) (trodAll_cons_mk (Below.trod laidOut (by kernel_rfl) (of_decide_eq_true (by kernel_rfl)) k1 bel lt1) trodAll_mk0)), rfl, bel.frame _, fun h => by cases h⟩

theorem over : Rows.quorumLeastRow.holds Try.pinned (OpenSpec.ofChange Rows.quorumLeastSpec) :=
  OpenClaim.holds_of_wide 4 Try.f4 rfl rfl rfl rfl rfl rfl rfl ⟨rfl, rfl, rfl, rfl, rfl⟩ rfl rfl rfl rfl rfl (by kernel_rfl) Try.func4 (by kernel_rfl)
    (of_decide_eq_true (by kernel_rfl)) (by unfold Func.isWrapper; first | (rw [if_pos (by decide +kernel)]; kernel_rfl) | (rw [if_neg (by decide +kernel)]; exact ⟨rfl, rfl⟩))
    (fun os started H enc _ => lifted os started H enc)
/-- The given statement. -/
theorem proved : Rows.QuorumLeastSaid := over
end quorumLeast

end Go.Proofs.Ytpdgcphflheeiaa
