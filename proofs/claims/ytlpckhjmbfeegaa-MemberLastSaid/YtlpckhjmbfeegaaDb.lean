/- The reference's joined, New, From. -/
import Derived.Test.YtlpckhjmbfeegaaDa
namespace Go.Proofs.Ytlpckhjmbfeegaa
open Go.RowKit
set_option maxRecDepth 20000
theorem rnew_any (b o : Nat) (w : World) : Calls Try.prog 12 #[.int .u64 (b : Int), .int .u64 (o : Int)] w fun e w' => e = .returned (.tuple #[.pointer (some ⟨w.heap.size, 0, none⟩), .bool (decide (b ≤ 4611686018427387904))]) ∧ (b ≤ 4611686018427387904 → Rk w' w.heap.size none 0 ⟨b, o, []⟩) ∧ Below w.heap.size w w' := by
  by_cases h : b ≤ 4611686018427387904
  · have q1 : decide ((b : Int) ≤ (4611686018427387904 : Int)) = true := by simp; omega
    have q2 : decide (b ≤ 4611686018427387904) = true := by simpa using h
    have q3 : (b : Int) ≤ (4611686018427387904 : Int) := by omega
    rw [q2]
    have HH := Lib.hid h
    clear h
    go_enter Try.func12, Try.ntmps12
    go_wp2
    go_ret2
    exact ⟨rfl, fun _ => ⟨heap_alloc_new w _, Rd.nil_, fun h => absurd h (Nat.lt_irrefl _), Nat.zero_le _, by have := HH.out; show b + 0 < _; omega⟩, (Below.refl _ _).alloc (Nat.le_refl _) _⟩
  · have q1 : decide ((b : Int) ≤ (4611686018427387904 : Int)) = false := by simp; omega
    have q2 : decide (b ≤ 4611686018427387904) = false := by simpa using h
    have q3 : ¬ (b : Int) ≤ (4611686018427387904 : Int) := by omega
    rw [q2]
    have HH := Lib.hid h
    clear h
    go_enter Try.func12, Try.ntmps12
    go_wp2
    go_ret2
    exact ⟨rfl, fun h => absurd h HH.out, (Below.refl _ _).alloc (Nat.le_refl _) _⟩
/-- An error's number of two rows. -/
def jstop (old : Nat) (x y : List It) : Int := if 4096 < x.length + y.length then 31 else if up (lastT old x) y then 0 else 2
/-- A row of one's own that is appended to. -/
structure ROne (w wr : World) (a : Value) (l : List It) : Prop where
  bel : Below w.heap.size w wr
  own : wr.ownsRow w.heap.size 62 3 a l.length (its l)
theorem owns_below {w w' : World} {base sz n : Nat} {e : TypeId} {v : Value} {xs : List Value} (h : w.ownsRow base e sz v n xs) (hb : Below w.heap.size w w') : w'.ownsRow base e sz v n xs :=
  (Keeps.of_below (F := fun _ => False) hb).own h (fun _ _ h => h)
theorem ROne.below {w wr w' : World} {a : Value} {l : List It} (h : ROne w wr a l) (hb : Below wr.heap.size wr w') : ROne w w' a l :=
  ⟨h.bel.trans (hb.mono h.bel.size), owns_below h.own hb⟩
theorem ROne.app {w wr w' : World} {a a' : Value} {l : List It} {x : It} (h : ROne w wr a l) (ho : w'.ownsRow w.heap.size 62 3 a' (l.length + 1) (its l ++ x.cells.toList)) (hg : wr.grownBy w' a.ownBlock) : ROne w w' a' (l ++ [x]) :=
  ⟨h.bel.grown hg h.bel.size (fun k e => (h.own.lt k e).1), by rw [List.length_append, its_app, its_one1]; exact ho⟩
/-- What joined tells. -/
def Joined (w : World) (old : Nat) (x y : List It) (e : Ending) (w' : World) : Prop := ∃ A n c, e = .returned (.tuple #[.slice A n c, .int .i64 (jstop old x y)]) ∧ Below w.heap.size w w' ∧ (jstop old x y = 0 → n = (x ++ y).length ∧ w'.ownsRow w.heap.size 62 3 (.slice A n c) n (its (x ++ y)))
theorem lastT_len {a : Nat} {x : List It} (h : 0 < x.length) : ∃ z, x[x.length - 1]? = some z ∧ lastT a x = z.tm := by
  rcases List.eq_nil_or_concat x with rfl | ⟨l, z, rfl⟩
  · exact absurd h (Nat.lt_irrefl _)
  · exact ⟨z, by simp, by rw [List.concat_eq_append, lastT_snoc]⟩
set_option maxHeartbeats 4000000 in
theorem joined_any {w : World} (old : Nat) {A1 A2 : Option Addr} {n1 n2 c1 c2 : Nat} {x y : List It} (hx : Rd w w.heap.size 3 A1 n1 c1 (its x)) (hy : Rd w w.heap.size 3 A2 n2 c2 (its y)) (hn1 : x.length = n1) (hn2 : y.length = n2) (hx4 : n1 ≤ 4096) (hy5 : n2 ≤ 5000) :
    Calls Try.prog 42 #[.int .u64 (old : Int), .slice A1 n1 c1, .slice A2 n2 c2] w (Joined w old x y) := by
  have HX := Lib.hid hx
  have HY := Lib.hid hy
  have xI : (n1 : Int) ≤ 4096 := by omega
  have yI : (n2 : Int) ≤ 5000 := by omega
  have HN1 := Lib.hid hn1
  have HN2 := Lib.hid hn2
  by_cases h1 : 4096 < n1 + n2
  · have d1 : decide ((4096 : Int) < (n1 : Int) + (n2 : Int)) = true := by simp; omega
    have d2 : (4096 : Int) < (n1 : Int) + (n2 : Int) := by omega
    have d3 : decide (4096 < n1 + n2) = true := by simpa using h1
    have HJ : Hid (jstop old x y = 31) := Lib.hid (by unfold jstop; rw [hn1, hn2, if_pos h1])
    clear hx hy hn1 hn2
    go_enter Try.func42, Try.ntmps42
    go_wp2_with (fail)
    go_ret2
    unfold Joined
    rw [HJ.out]
    exact ⟨_, _, _, rfl, Below.refl _ _, fun h => by cases h⟩
  · have d1 : decide ((4096 : Int) < (n1 : Int) + (n2 : Int)) = false := by simp; omega
    have d2 : ¬ (4096 : Int) < (n1 : Int) + (n2 : Int) := by omega
    have d3 : decide (4096 < n1 + n2) = false := by simpa using h1
    have HJ : Hid (jstop old x y = if up (lastT old x) y then 0 else 2) := Lib.hid (by unfold jstop; rw [hn1, hn2, if_neg h1])
    have hnc1 : n1 ≤ c1 := hx.1
    obtain ⟨a0, ha0⟩ : ∃ a, a = lastT old x := ⟨_, rfl⟩
    have HA0 := Lib.hid ha0.symm
    rcases Nat.eq_zero_or_pos n1 with h0 | h0
    · have hxe : x = [] := List.eq_nil_of_length_eq_zero (by omega)
      obtain rfl : old = a0 := by rw [ha0, hxe]; rfl
      subst h0
      clear hxe ha0 hx hy hx4 hy5 hn1 hn2 h1
      go_enter Try.func42, Try.ntmps42
      go_wp2_with (first
        | (at_builtin
           refine wpL_app rfl (.tmp 17) (.tmp 18) _ _ rfl E_rit rfl rfl (World.ownsRow_nil w w.heap.size 62 3) (HX.out.src Try.underlying37 (its_one _)) (by unfold maxLen; omega) (by omega) (Nat.le_refl _) ?_
           intro v3 w3 ho3 hg3 hat3
           simp only [Nat.zero_add, List.nil_append] at ho3
           have HO3 : Hid (ROne w w3 v3 x) := Lib.hid ⟨(Below.refl w.heap.size w).grown hg3 (Nat.le_refl _) (fun k e => by cases e), by first | exact ho3 | (rw [HN1.out]; exact ho3)⟩
           clear ho3 hg3 hat3)
        | fail)
      go_loopw [8, 9, 10] (fun vr ar ir wr => ∃ (i a : Nat) (vo : Value), i ≤ n2 ∧ vr = vo ∧ ar = .int .u64 (a : Int) ∧ ir = .int .i64 (i : Int) ∧ Hid (up (lastT old x) y = up a (y.drop i)) ∧ Hid (ROne w wr vo (x ++ y.take i))) (fun _ _ ir _ => n2 - (intOf ir).toNat)
      case atStart => exact ⟨0, old, _, Nat.zero_le _, rfl, rfl, rfl, Lib.hid (by rw [HA0.out]; rfl), Lib.hid (by rw [List.take_zero, List.append_nil]; exact HO3.out)⟩
      case round =>
        obtain ⟨i, a, vo, hi, rfl, rfl, rfl, HU, HOR⟩ := hrel
        by_cases hlt : i < n2
        · obtain ⟨z, hz⟩ : ∃ z, y[i]? = some z := ⟨_, List.getElem?_eq_getElem (by have := HN2.out; omega)⟩
          have hrd := HY.out.below HOR.out.bel
          obtain ⟨b, o, rfl, hbb, e0, e1, e2⟩ := hrd.item HN2.out hz
          have hU := up_at (a := a) hz
          rw [← HU.out] at hU
          have HUX := Lib.hid hU
          have HTK : Hid (x ++ y.take (i + 1) = (x ++ y.take i) ++ [z]) := Lib.hid (by rw [List.take_add_one, hz]; simp)
          have HLT := Lib.hid hlt
          have hlti : (i : Int) < (n2 : Int) := by omega
          have d5 : decide ((i : Int) < (n2 : Int)) = true := by simpa using hlti
          obtain ⟨lo, hlo⟩ : ∃ lo, lo = (x ++ y.take i).length := ⟨_, rfl⟩
          have HXL : Hid (lo = 0 + i) := Lib.hid (by rw [hlo, List.length_append, List.length_take, HN1.out, HN2.out]; omega)
          have HLO := Lib.hid hlo
          have hoo := HOR.out.own
          rw [← hlo] at hoo
          have HOO := Lib.hid hoo
          clear hlo hoo
          have HZB := Lib.hid hbb
          clear hrd hz hU HU hlt
          obtain ⟨zt, zk, zx⟩ := z
          dsimp only at *
          by_cases hza : zt < a
          · have d6 : decide ((zt : Int) < (a : Int)) = true := by simpa using hza
            have d7 : decide (zt < a) = true := by simpa using hza
            go_wp2_with (fail)
            go_ret2
            have hup : up (lastT old x) y = false := by rw [HUX.out, decide_eq_false (by omega), Bool.false_and]
            unfold Joined
            rw [HJ.out, hup]
            exact ⟨_, _, _, rfl, HOR.out.bel, fun h => by cases h⟩
          · have d6 : decide ((zt : Int) < (a : Int)) = false := by simpa using hza
            have d7 : decide (zt < a) = false := by simpa using hza
            obtain ⟨Ao, co, rfl⟩ := ownsRow_form HOO.out
            go_wp2_with (first
              | (at_builtin
                 have hbw := (Below.refl wr.heap.size wr).alloc (Nat.le_refl _) (.cells #[.int .u64 (zt : Int), .int .i64 zk, .string (str zx)] 62)
                 have hon := HOR.out.below hbw
                 have HON := Lib.hid hon
                 have HOP := Lib.hid (owns_below HOO.out hbw)
                 have HSL := Lib.hid (Src.lit (w := wr) (sz := 3) (n := 1) (e := 62) Try.underlying37 #[.int .u64 (zt : Int), .int .i64 zk, .string (str zx)] rfl (it_one ⟨zt, zk, zx⟩))
                 refine wpL_app rfl (.tmp 49) (.tmp 54) _ _ rfl E_rit rfl rfl HOP.out HSL.out (by have := HXL.out; unfold maxLen; omega) (by have := HXL.out; omega) HON.out.bel.size ?_
                 intro v5 w5 ho5 hg5 hat5
                 have HO5 : Hid (ROne w w5 v5 ((x ++ y.take i) ++ [⟨zt, zk, zx⟩])) := Lib.hid (HON.out.app (by rw [← HLO.out]; exact ho5) hg5)
                 clear hbw hon ho5 hg5 hat5)
              | fail)
            have hl2 := HLT.out
            refine ⟨⟨i + 1, zt, _, by omega, rfl, rfl, by go_num, Lib.hid ?_, Lib.hid (by rw [HTK.out]; exact HO5.out)⟩, by simp [intOf]; omega⟩
            rw [HUX.out, decide_eq_true (by omega), Bool.true_and]
        · obtain rfl : i = n2 := by omega
          have d5 : decide ((i : Int) < (i : Int)) = false := by simp
          have HUE : Hid (up (lastT old x) y = true) := Lib.hid (by rw [HU.out, List.drop_eq_nil_of_le (by have := HN2.out; omega)]; rfl)
          have HTA : Hid (x ++ y.take i = x ++ y) := Lib.hid (by rw [List.take_of_length_le (by have := HN2.out; omega)])
          clear hlt HU
          obtain ⟨lo, hlo⟩ : ∃ lo, lo = (x ++ y.take i).length := ⟨_, rfl⟩
          have hoo := HOR.out.own
          rw [← hlo] at hoo
          have HOO := Lib.hid hoo
          have HLO := Lib.hid hlo
          clear hlo hoo
          obtain ⟨Ao, co, rfl⟩ := ownsRow_form HOO.out
          go_wp2_with (fail)
          go_ret2
          unfold Joined
          rw [HJ.out, HUE.out]
          have ho := HOO.out
          rw [HTA.out] at ho
          exact ⟨_, _, _, rfl, HOR.out.bel, fun _ => ⟨by rw [HLO.out, HTA.out], ho⟩⟩

    · obtain ⟨z, hz, hlz⟩ := lastT_len (a := old) (x := x) (by omega)
      rw [hn1] at hz
      obtain ⟨k, rfl⟩ : ∃ k, n1 = k + 1 := ⟨n1 - 1, by omega⟩
      rw [Nat.add_sub_cancel] at hz
      obtain ⟨b1, o1, rfl, hb1, q0, q1, q2⟩ := hx.item hn1 hz
      have haz : z.tm = a0 := by rw [ha0, hlz]
      rw [haz] at q0
      have HQ := Lib.hid q0
      have hkI : (k : Int) ≤ 4096 := by omega
      clear hx hy hx4 hy5 ha0 hn1 hn2 h1 hz hlz haz q0 q1 q2
      go_enter Try.func42, Try.ntmps42
      go_wp2_with (first
        | (at_builtin
           refine wpL_app rfl (.tmp 17) (.tmp 18) _ _ rfl E_rit rfl rfl (World.ownsRow_nil w w.heap.size 62 3) (HX.out.src Try.underlying37 (its_one _)) (by unfold maxLen; omega) (by omega) (Nat.le_refl _) ?_
           intro v3 w3 ho3 hg3 hat3
           simp only [Nat.zero_add, List.nil_append] at ho3
           have HO3 : Hid (ROne w w3 v3 x) := Lib.hid ⟨(Below.refl w.heap.size w).grown hg3 (Nat.le_refl _) (fun k e => by cases e), by first | exact ho3 | (rw [HN1.out]; exact ho3)⟩
           clear ho3 hg3 hat3
           have q0 := (HO3.out.bel.cell (p := ⟨b1, o1 + k * 3, none⟩) hb1).trans HQ.out)
        | fail)
      go_loopw [8, 9, 10] (fun vr ar ir wr => ∃ (i a : Nat) (vo : Value), i ≤ n2 ∧ vr = vo ∧ ar = .int .u64 (a : Int) ∧ ir = .int .i64 (i : Int) ∧ Hid (up (lastT old x) y = up a (y.drop i)) ∧ Hid (ROne w wr vo (x ++ y.take i))) (fun _ _ ir _ => n2 - (intOf ir).toNat)
      case atStart => exact ⟨0, a0, _, Nat.zero_le _, rfl, rfl, rfl, Lib.hid (by rw [HA0.out]; rfl), Lib.hid (by rw [List.take_zero, List.append_nil]; exact HO3.out)⟩
      case round =>
        obtain ⟨i, a, vo, hi, rfl, rfl, rfl, HU, HOR⟩ := hrel
        by_cases hlt : i < n2
        · obtain ⟨z, hz⟩ : ∃ z, y[i]? = some z := ⟨_, List.getElem?_eq_getElem (by have := HN2.out; omega)⟩
          have hrd := HY.out.below HOR.out.bel
          obtain ⟨b, o, rfl, hbb, e0, e1, e2⟩ := hrd.item HN2.out hz
          have hU := up_at (a := a) hz
          rw [← HU.out] at hU
          have HUX := Lib.hid hU
          have HTK : Hid (x ++ y.take (i + 1) = (x ++ y.take i) ++ [z]) := Lib.hid (by rw [List.take_add_one, hz]; simp)
          have HLT := Lib.hid hlt
          have hlti : (i : Int) < (n2 : Int) := by omega
          have d5 : decide ((i : Int) < (n2 : Int)) = true := by simpa using hlti
          obtain ⟨lo, hlo⟩ : ∃ lo, lo = (x ++ y.take i).length := ⟨_, rfl⟩
          have HXL : Hid (lo = (k + 1) + i) := Lib.hid (by rw [hlo, List.length_append, List.length_take, HN1.out, HN2.out]; omega)
          have HLO := Lib.hid hlo
          have hoo := HOR.out.own
          rw [← hlo] at hoo
          have HOO := Lib.hid hoo
          clear hlo hoo
          have HZB := Lib.hid hbb
          clear hrd hz hU HU hlt
          obtain ⟨zt, zk, zx⟩ := z
          dsimp only at *
          by_cases hza : zt < a
          · have d6 : decide ((zt : Int) < (a : Int)) = true := by simpa using hza
            have d7 : decide (zt < a) = true := by simpa using hza
            go_wp2_with (fail)
            go_ret2
            have hup : up (lastT old x) y = false := by rw [HUX.out, decide_eq_false (by omega), Bool.false_and]
            unfold Joined
            rw [HJ.out, hup]
            exact ⟨_, _, _, rfl, HOR.out.bel, fun h => by cases h⟩
          · have d6 : decide ((zt : Int) < (a : Int)) = false := by simpa using hza
            have d7 : decide (zt < a) = false := by simpa using hza
            obtain ⟨Ao, co, rfl⟩ := ownsRow_form HOO.out
            go_wp2_with (first
              | (at_builtin
                 have hbw := (Below.refl wr.heap.size wr).alloc (Nat.le_refl _) (.cells #[.int .u64 (zt : Int), .int .i64 zk, .string (str zx)] 62)
                 have hon := HOR.out.below hbw
                 have HON := Lib.hid hon
                 have HOP := Lib.hid (owns_below HOO.out hbw)
                 have HSL := Lib.hid (Src.lit (w := wr) (sz := 3) (n := 1) (e := 62) Try.underlying37 #[.int .u64 (zt : Int), .int .i64 zk, .string (str zx)] rfl (it_one ⟨zt, zk, zx⟩))
                 refine wpL_app rfl (.tmp 49) (.tmp 54) _ _ rfl E_rit rfl rfl HOP.out HSL.out (by have := HXL.out; unfold maxLen; omega) (by have := HXL.out; omega) HON.out.bel.size ?_
                 intro v5 w5 ho5 hg5 hat5
                 have HO5 : Hid (ROne w w5 v5 ((x ++ y.take i) ++ [⟨zt, zk, zx⟩])) := Lib.hid (HON.out.app (by rw [← HLO.out]; exact ho5) hg5)
                 clear hbw hon ho5 hg5 hat5)
              | fail)
            have hl2 := HLT.out
            refine ⟨⟨i + 1, zt, _, by omega, rfl, rfl, by go_num, Lib.hid ?_, Lib.hid (by rw [HTK.out]; exact HO5.out)⟩, by simp [intOf]; omega⟩
            rw [HUX.out, decide_eq_true (by omega), Bool.true_and]
        · obtain rfl : i = n2 := by omega
          have d5 : decide ((i : Int) < (i : Int)) = false := by simp
          have HUE : Hid (up (lastT old x) y = true) := Lib.hid (by rw [HU.out, List.drop_eq_nil_of_le (by have := HN2.out; omega)]; rfl)
          have HTA : Hid (x ++ y.take i = x ++ y) := Lib.hid (by rw [List.take_of_length_le (by have := HN2.out; omega)])
          clear hlt HU
          obtain ⟨lo, hlo⟩ : ∃ lo, lo = (x ++ y.take i).length := ⟨_, rfl⟩
          have hoo := HOR.out.own
          rw [← hlo] at hoo
          have HOO := Lib.hid hoo
          have HLO := Lib.hid hlo
          clear hlo hoo
          obtain ⟨Ao, co, rfl⟩ := ownsRow_form HOO.out
          go_wp2_with (fail)
          go_ret2
          unfold Joined
          rw [HJ.out, HUE.out]
          have ho := HOO.out
          rw [HTA.out] at ho
          exact ⟨_, _, _, rfl, HOR.out.bel, fun _ => ⟨by rw [HLO.out, HTA.out], ho⟩⟩

end Go.Proofs.Ytlpckhjmbfeegaa
