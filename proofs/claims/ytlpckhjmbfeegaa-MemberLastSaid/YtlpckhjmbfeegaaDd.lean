/- The reference's Cut, From. -/
import Derived.Test.YtlpckhjmbfeegaaDc
namespace Go.Proofs.Ytlpckhjmbfeegaa
open Go.RowKit
set_option maxRecDepth 20000
section
variable {w w' w1 : World} {g c : Nat} {A : Option Addr} {t : Cv}
theorem drop_take {l : List It} {j k : Nat} {x : It} (h : l[k]? = some x) (hj : j ≤ k) : (l.take (k + 1)).drop j = (l.take k).drop j ++ [x] := by
  have hk : k < l.length := (List.getElem?_eq_some_iff.1 h).1
  rw [List.take_add_one, h]
  rw [List.drop_append_of_le_length (by rw [List.length_take]; omega)]
  rfl
set_option maxHeartbeats 2000000 in
theorem rfrom_any (h : Rk w g A c t) (i : Nat) (hi : i < 18446744073709551616) : Calls Try.prog 49 #[.pointer (some ⟨g, 0, none⟩), .int .u64 (i : Int)] w (Rowed w 62 (t.from_ i)) := by
  have HH := Lib.hid h
  have c0 := h.c0
  have c2 := h.c2
  have hg := h.lt
  have hroom := h.room
  have hbl := h.bl
  obtain ⟨j, hj⟩ : ∃ j, j = i - t.base - 1 := ⟨_, rfl⟩
  have HJ := Lib.hid hj
  have HF : Hid (t.from_ i = t.l.drop j) := Lib.hid (by unfold Cv.from_; rw [hj])
  have HLEN : Hid (t.l.length ≤ 4096) := Lib.hid hroom
  have bI : (t.base : Int) < 9000000000000000000 := by omega
  have lI : (t.l.length : Int) ≤ 4096 := by omega
  clear h hj hroom hbl
  go_enter Try.func49, Try.ntmps49
  go_wp2_with (fail)
  go_loopw [5, 6] (fun vr kr wr => ∃ (k : Nat) (vo : Value), k ≤ t.l.length ∧ vr = vo ∧ kr = .int .i64 (k : Int) ∧ Hid (ROne w wr vo ((t.l.take k).drop j))) (fun _ kr _ => t.l.length - (intOf kr).toNat)
  case atStart => exact ⟨0, _, Nat.zero_le _, rfl, rfl, Lib.hid ⟨Below.refl _ _, by rw [List.take_zero, List.drop_nil]; exact World.ownsRow_nil _ _ _ _⟩⟩
  case round =>
    obtain ⟨k, vo, hk, rfl, rfl, HO⟩ := hrel
    have h2 := HH.out.below HO.out.bel
    have e0 := h2.c0
    have e2 := h2.c2
    by_cases hlt : k < t.l.length
    · obtain ⟨x, hx⟩ : ∃ x, t.l[k]? = some x := ⟨_, List.getElem?_eq_getElem hlt⟩
      obtain ⟨b, o, rfl, hbb, k0, k1, k2⟩ := h2.rd.item rfl hx
      have hki : (k : Int) < (t.l.length : Int) := by omega
      have d5 : decide ((k : Int) < (t.l.length : Int)) = true := by simpa using hki
      have kI : (k : Int) ≤ 4096 := by omega
      have HLT := Lib.hid hlt
      by_cases hji : j ≤ k
      · have HD : Hid ((t.l.take (k + 1)).drop j = (t.l.take k).drop j ++ [x]) := Lib.hid (drop_take hx hji)
        have q1 : (i : Int) ≤ (t.base : Int) + 1 + (k : Int) := by have := HJ.out; omega
        have d6 : decide ((i : Int) ≤ (t.base : Int) + 1 + (k : Int)) = true := by simpa using q1
        obtain ⟨lo, hlo⟩ : ∃ lo, lo = ((t.l.take k).drop j).length := ⟨_, rfl⟩
        have HLO := Lib.hid hlo
        have HLB : Hid (lo ≤ 4096) := Lib.hid (by rw [hlo, List.length_drop, List.length_take]; have := HLEN.out; omega)
        have hoo := HO.out.own
        rw [← hlo] at hoo
        have HOO := Lib.hid hoo
        obtain ⟨Ao, co, rfl⟩ := ownsRow_form hoo
        clear hlo hoo h2 hx hlt hji
        obtain ⟨zt, zk, zx⟩ := x
        dsimp only at *
        go_wp2_with (first
          | (at_builtin
             have hbw := (Below.refl wr.heap.size wr).alloc (Nat.le_refl _) (.cells #[.int .u64 (zt : Int), .int .i64 zk, .string (str zx)] 62)
             have hon := HO.out.below hbw
             have HON := Lib.hid hon
             have HOP := Lib.hid (owns_below HOO.out hbw)
             have HSL := Lib.hid (Src.lit (w := wr) (sz := 3) (n := 1) (e := 62) Try.underlying37 #[.int .u64 (zt : Int), .int .i64 zk, .string (str zx)] rfl (it_one ⟨zt, zk, zx⟩))
             refine wpL_app rfl (.tmp 26) (.tmp 34) _ _ rfl E_rit rfl rfl HOP.out HSL.out (by have := HLB.out; unfold maxLen; omega) (by have := HLB.out; omega) HON.out.bel.size ?_
             intro v5 w5 ho5 hg5 hat5
             have HO5 : Hid (ROne w w5 v5 ((t.l.take k).drop j ++ [⟨zt, zk, zx⟩])) := Lib.hid (HON.out.app (by rw [← HLO.out]; exact ho5) hg5)
             clear hbw hon ho5 hg5 hat5)
          | fail)
        have hl2 := HLT.out
        exact ⟨⟨k + 1, _, by omega, rfl, by go_num, Lib.hid (by rw [HD.out]; exact HO5.out)⟩, by simp [intOf]; omega⟩
      · have HD : Hid ((t.l.take (k + 1)).drop j = (t.l.take k).drop j) := Lib.hid (by rw [List.drop_eq_nil_of_le (by rw [List.length_take]; omega), List.drop_eq_nil_of_le (by rw [List.length_take]; omega)])
        have q1 : ¬ (i : Int) ≤ (t.base : Int) + 1 + (k : Int) := by have := HJ.out; omega
        have d6 : decide ((i : Int) ≤ (t.base : Int) + 1 + (k : Int)) = false := by simpa using q1
        clear h2 hx hlt hji
        go_wp2_with (fail)
        have hl2 := HLT.out
        exact ⟨⟨k + 1, _, by omega, rfl, by go_num, Lib.hid (by rw [HD.out]; exact HO.out)⟩, by simp [intOf]; omega⟩
    · obtain rfl : k = t.l.length := by omega
      have d5 : decide ((t.l.length : Int) < (t.l.length : Int)) = false := by simp
      have ho := HO.out.own
      rw [List.take_length] at ho
      obtain ⟨Ao, co, rfl⟩ := ownsRow_form ho
      have HOO := Lib.hid ho
      clear ho hlt h2
      go_wp2_with (fail)
      go_ret
      unfold Rowed
      rw [HF.out]
      exact ⟨Ao, co, by simp, HOO.out, HO.out.bel⟩
theorem term_eq {f : FuncId} {args : Array Value} {i : Nat} (h : Calls Try.prog f args w (Termed w (t.tm i))) : Calls Try.prog f args w fun e w' => ∃ ok, e = .returned (.tuple #[.int .u64 ((t.term i : Nat) : Int), .bool ok]) ∧ Below w.heap.size w w' :=
  h.mono fun _ _ k => ⟨_, k.1, k.2⟩
set_option maxHeartbeats 2000000 in
theorem rcut_any (h : Rk w g A c t) (b : Nat) : Calls Try.prog 19 #[.pointer (some ⟨g, 0, none⟩), .int .u64 (b : Int)] w fun e w' => e = .returned (.int .i64 (t.cutWhy b)) ∧ RMv w g A t.l.length (t.cut b) w' := by
  have HL := Lib.hid (rlast_any h)
  have HH := Lib.hid h
  unfold Cv.cutWhy Cv.cut
  by_cases h1 : t.last < b
  · rw [if_pos h1, if_pos h1]
    have d1 : decide ((t.last : Int) < (b : Int)) = true := by simpa using h1
    have d2 : decide (t.last < b) = true := by simpa using h1
    clear h
    go_enter Try.func19, Try.ntmps19
    go_wp2_with (first
      | (go_at_call 38; refine HL.out.mono ?_; rintro e w2 ⟨rfl, hb2⟩)
      | fail)
    go_ret
    exact ⟨rfl, RMv.same HH.out hb2⟩
  · rw [if_neg h1, if_neg h1]
    have d1 : decide ((t.last : Int) < (b : Int)) = false := by simpa using h1
    have d2 : decide (t.last < b) = false := by simpa using h1
    by_cases h2 : b ≤ t.base
    · rw [if_pos h2]
      have d3 : decide ((t.base : Int) < (b : Int)) = false := by simpa using h2
      have d4 : decide (t.base < b) = false := by simpa using h2
      clear h
      go_enter Try.func19, Try.ntmps19
      go_wp2_with (first
        | (go_at_call 38; refine HL.out.mono ?_; rintro e w2 ⟨rfl, hb2⟩; have c0 := (HH.out.below hb2).c0; have HB2 := Lib.hid hb2; clear hb2)
        | fail)
      go_ret
      exact ⟨rfl, RMv.same HH.out HB2.out⟩
    · rw [if_neg h2]
      have d3 : decide ((t.base : Int) < (b : Int)) = true := by simp; omega
      have d4 : decide (t.base < b) = true := by simp; omega
      have HT := Lib.hid (fun W (hb : Below w.heap.size w W) => term_eq (rterm_any (h.below hb) b))
      generalize t.term b = y at *
      obtain ⟨k, hk⟩ : ∃ k, k = b - t.base := ⟨_, rfl⟩
      have hkl : k ≤ t.l.length := by unfold Cv.last at h1; omega
      have hfr : t.from_ (b + 1) = t.l.drop k := by unfold Cv.from_; rw [hk, show b + 1 - t.base - 1 = b - t.base by omega]
      rw [hfr]
      obtain ⟨q, o, rfl, hq, _⟩ := h.rd.2.2.2 (by omega)
      have hcl : t.l.length ≤ c := h.rd.1
      have hr4 := h.room
      have hbd := h.bound
      have HDL : Hid ((t.l.drop k).length = t.l.length - k) := Lib.hid List.length_drop
      have u1 : (b : Int) - (t.base : Int) = (k : Int) := by omega
      have u2 : IntKind.u64.wrap ((b : Int) - (t.base : Int)) = (k : Int) := by rw [u1]; exact u64w _ (by omega) (by omega)
      have kI : (k : Int) ≤ (t.l.length : Int) := by omega
      have lI : (t.l.length : Int) ≤ 4096 := by omega
      have hkc : k ≤ c := by omega
      have HBN : Hid (b + (t.l.length - k) < 9000000000000000000) := Lib.hid (by unfold Cv.last at hbd; omega)
      have HRM := Lib.hid hr4
      have HKL := Lib.hid hkl
      have HLP : Hid (0 < t.l.length) := Lib.hid (by unfold Cv.last at h1; omega)
      have HHC := Lib.hid hcl
      have hqg : q ≠ g := h.sep (by omega) q o rfl
      have HQG := Lib.hid hqg
      clear h h1 h2 hk hfr hr4 hbd
      go_enter Try.func19, Try.ntmps19
      by_cases hck : c = k
      · have hkl : k = t.l.length := by have := HKL.out; have := HHC.out; omega
        subst hck
        have HDZ : Hid ((t.l.drop c).length = 0) := Lib.hid (by rw [HDL.out]; omega)
        go_wp2_with (first
          | (go_at_call 38; refine HL.out.mono ?_; rintro e w2 ⟨rfl, hb2⟩; have c0 := (HH.out.below hb2).c0; have HB2 := Lib.hid hb2; clear hb2)
          | (go_at_call 45; refine (HT.out _ HB2.out).mono ?_; rintro e w3 ⟨bT, rfl, hb3⟩
             have HB3 := Lib.hid (HB2.out.trans (hb3.mono HB2.out.size))
             have h3 := HH.out.below HB3.out
             have e0 := h3.c0
             have e2 := h3.c2
             have f2 := h3.fr 2
             have HR3 := Lib.hid h3.row
             clear hb3 h3 c0)
          | fail)
        go_big_region
        obtain ⟨W4, hW4⟩ : ∃ W4, W4 = (w3.setCell ⟨g, 2, none⟩ (.slice (some ⟨q, o, none⟩) (0) (0))).drew := ⟨_, rfl⟩
        have hr4 : W4.heap[g]? = some (.cells #[.int .u64 (t.base : Int), .int .u64 (t.old : Int), .slice (some ⟨q, o, none⟩) (0) (0)] 70 (0, 0)) := by
          rw [hW4]
          exact heap_setCell_same w3 g 2 _ _ _ HR3.out
        have hk4 : Keeps (fun i => i = g) w W4 := by
          rw [hW4]
          exact ((Keeps.of_below HB3.out).trans (Keeps.set w3 g 2 _) (fun i hi => .inl hi)).drew
        rw [← hW4]
        have g0 := cell_of_row W4 g 0 _ _ _ hr4
        have f0 := frozen_of_row W4 g 0 _ _ hr4
        have hr5 := heap_setCell_same W4 g 0 _ _ (.int .u64 (b : Int)) hr4
        have g1 := cell_of_row _ g 1 _ _ _ hr5
        have f1 := frozen_of_row _ g 1 _ _ hr5
        have HR4 := Lib.hid hr4
        have HR5 := Lib.hid hr5
        have HK4 := Lib.hid hk4
        clear hr4 hr5 hk4 hW4 e0 e2 f2
        go_wp2_with (fail)
        go_ret
        have hk6 := ((HK4.out.trans (Keeps.set W4 g 0 (.int .u64 (b : Int))) (fun i hi => .inl hi)).trans (Keeps.set _ g 1 (.int .u64 (y : Int))) (fun i hi => .inl hi))
        have hrd := HH.out.rd.apart (Nat.le_refl _) hk6 (fun _ b' o' e => by cases e; exact HQG.out)
        have hrow := heap_setCell_same _ g 1 _ _ (.int .u64 (y : Int)) HR5.out
        have hz := HDZ.out
        refine ⟨rfl, some ⟨q, o, none⟩, 0, ⟨?_, ?_, fun h => absurd h (by rw [hz]; exact Nat.lt_irrefl _), ?_, ?_⟩, hk6, fun _ b' o' e => by cases e; exact .inl ⟨HLP.out, o, rfl⟩⟩
        · show _ = some (Obj.cells #[_, _, .slice _ (t.l.drop c).length 0] _ _)
          rw [hz]
          exact hrow
        · show Rd _ _ 3 _ (t.l.drop c).length 0 _
          rw [hz]
          exact ⟨Nat.le_refl _, Nat.zero_le _, by rw [its_len, hz], fun h => absurd h (Nat.lt_irrefl _)⟩
        · show (t.l.drop c).length ≤ 4096
          rw [hz]; exact Nat.zero_le _
        · show b + (t.l.drop c).length < _
          rw [HDL.out]; exact HBN.out
      · skip
        go_wp2_with (first
          | (go_at_call 38; refine HL.out.mono ?_; rintro e w2 ⟨rfl, hb2⟩; have c0 := (HH.out.below hb2).c0; have HB2 := Lib.hid hb2; clear hb2)
          | (go_at_call 45; refine (HT.out _ HB2.out).mono ?_; rintro e w3 ⟨bT, rfl, hb3⟩
             have HB3 := Lib.hid (HB2.out.trans (hb3.mono HB2.out.size))
             have h3 := HH.out.below HB3.out
             have e0 := h3.c0
             have e2 := h3.c2
             have f2 := h3.fr 2
             have HR3 := Lib.hid h3.row
             clear hb3 h3 c0)
          | fail)
        go_big_region
        obtain ⟨W4, hW4⟩ : ∃ W4, W4 = (w3.setCell ⟨g, 2, none⟩ (.slice (some ⟨q, o + k * 3, none⟩) (t.l.length - k) (c - k))).drew := ⟨_, rfl⟩
        have hr4 : W4.heap[g]? = some (.cells #[.int .u64 (t.base : Int), .int .u64 (t.old : Int), .slice (some ⟨q, o + k * 3, none⟩) (t.l.length - k) (c - k)] 70 (0, 0)) := by
          rw [hW4]
          exact heap_setCell_same w3 g 2 _ _ _ HR3.out
        have hk4 : Keeps (fun i => i = g) w W4 := by
          rw [hW4]
          exact ((Keeps.of_below HB3.out).trans (Keeps.set w3 g 2 _) (fun i hi => .inl hi)).drew
        rw [← hW4]
        have g0 := cell_of_row W4 g 0 _ _ _ hr4
        have f0 := frozen_of_row W4 g 0 _ _ hr4
        have hr5 := heap_setCell_same W4 g 0 _ _ (.int .u64 (b : Int)) hr4
        have g1 := cell_of_row _ g 1 _ _ _ hr5
        have f1 := frozen_of_row _ g 1 _ _ hr5
        have HR4 := Lib.hid hr4
        have HR5 := Lib.hid hr5
        have HK4 := Lib.hid hk4
        clear hr4 hr5 hk4 hW4 e0 e2 f2
        go_wp2_with (fail)
        go_ret
        have hk6 := ((HK4.out.trans (Keeps.set W4 g 0 (.int .u64 (b : Int))) (fun i hi => .inl hi)).trans (Keeps.set _ g 1 (.int .u64 (y : Int))) (fun i hi => .inl hi))
        have hrd := HH.out.rd.apart (Nat.le_refl _) hk6 (fun _ b' o' e => by cases e; exact HQG.out)
        have hrow := heap_setCell_same _ g 1 _ _ (.int .u64 (y : Int)) HR5.out
        refine ⟨rfl, some ⟨q, o + k * 3, none⟩, c - k, ⟨?_, ?_, ?_, ?_, ?_⟩, hk6, fun _ b' o' e => by cases e; exact .inl ⟨HLP.out, o, rfl⟩⟩
        · show _ = some (Obj.cells #[_, _, .slice _ (t.l.drop k).length _] _ _)
          rw [HDL.out]
          exact hrow
        · have := (hrd.drop3 rfl HKL.out).more hk6.size
          simp only [Option.map_some, addOff] at this
          show Rd _ _ 3 _ (t.l.drop k).length _ _
          rw [HDL.out]
          exact this
        · intro _ b' o' e
          cases e
          exact HQG.out
        · show (t.l.drop k).length ≤ 4096
          rw [HDL.out]; have := HRM.out; omega
        · show b + (t.l.drop k).length < _
          rw [HDL.out]; exact HBN.out
end
end Go.Proofs.Ytlpckhjmbfeegaa
