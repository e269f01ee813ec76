/- What a bag's calls do that turn it: At, New, Put, Double, Clear. -/
import Derived.Test.YtdddknncndjbcaaBag
namespace Go.Proofs.Ytdddknncndjbcaa
open Go.RowKit
theorem u64w (x : Int) (h0 : 0 ≤ x) (h1 : x < 18446744073709551616) : IntKind.u64.wrap x = x := by
  simp [IntKind.wrap, IntKind.bits, IntKind.signed]
  omega
def K64 (x : Int) : Prop := -9223372036854775808 ≤ x ∧ x ≤ 9223372036854775807
section
variable {w w' w1 : World} {B g : Nat} {v : Value} {t : Bv}
theorem inb_neg {i : Int} (h : i < 0) : t.inb i = false := by unfold Bv.inb; simp; omega
theorem inb_nat (n : Nat) : t.inb (n : Int) = decide (n < t.l.length) := by
  unfold Bv.inb
  by_cases h : n < t.l.length
  · simp [h]
  · simp [h]
theorem at_any (h : Bg w B g v t) (i : Int) : Calls Try.prog 12 #[.pointer (some ⟨g, 0, none⟩), .int .i64 i] w fun e w' => e = .returned (.tuple #[.int .i64 (t.get i), .bool (t.inb i)]) ∧ w = w' := by
  have HL := Lib.hid (len_any h)
  by_cases h0 : i < 0
  · have hi : t.inb i = false := inb_neg h0
    have hg : t.get i = 0 := by unfold Bv.get; rw [hi]; rfl
    rw [hi, hg]
    have d0 : decide (i < 0) = true := by simpa using h0
    clear h hi hg
    go_enter Try.func12, Try.ntmps12
    go_wp2
    go_ret2
    exact ⟨rfl, rfl⟩
  · have d0 : decide (i < 0) = false := by simpa using h0
    obtain ⟨n, rfl⟩ : ∃ n : Nat, i = (n : Int) := ⟨i.toNat, by omega⟩
    by_cases h1 : n < t.l.length
    · have hi : t.inb (n : Int) = true := by rw [inb_nat]; simpa using h1
      have hg : t.get (n : Int) = t.l.getD n 0 := by unfold Bv.get; rw [hi]; rfl
      rw [hi, hg]
      have d1 : decide ((t.l.length : Int) ≤ (n : Int)) = false := by simp; omega
      have d2 : decide (t.l.length ≤ n) = false := by simp; omega
      have d3 : ¬ t.l.length ≤ n := by omega
      have c0 := h.c0
      obtain ⟨A, c, rfl⟩ := h.form
      obtain ⟨b, o, u, rfl, _, hu, hc⟩ := (ownsRow_rd h.own).at_ h1
      rw [is_get h1] at hu
      obtain rfl := Option.some.inj hu
      generalize t.l.getD n 0 = y at *
      clear h hi hg hu h0
      go_enter Try.func12, Try.ntmps12
      go_wp2_with (first
        | (go_at_call 15; refine HL.out.mono ?_; rintro e w2 ⟨rfl, rfl⟩)
        | fail)
      go_ret2
      exact ⟨rfl, rfl⟩
    · have hi : t.inb (n : Int) = false := by rw [inb_nat]; simpa using h1
      have hg : t.get (n : Int) = 0 := by unfold Bv.get; rw [hi]; rfl
      rw [hi, hg]
      have d1 : decide ((t.l.length : Int) ≤ (n : Int)) = true := by simp; omega
      have d2 : decide (t.l.length ≤ n) = true := by simp; omega
      have d3 : t.l.length ≤ n := by omega
      clear h hi hg h0
      go_enter Try.func12, Try.ntmps12
      go_wp2_with (first
        | (go_at_call 15; refine HL.out.mono ?_; rintro e w2 ⟨rfl, rfl⟩)
        | fail)
      go_ret2
      exact ⟨rfl, rfl⟩
theorem bnew_none (n : Int) (w : World) (hn : n < 1 ∨ 256 < n) : Calls Try.prog 6 #[.int .i64 n] w fun e w' => e = .returned (.pointer none) ∧ w = w' := by
  by_cases h1 : n < 1
  · have q1 : decide (n < 1) = true := by simpa using h1
    clear hn
    go_enter Try.func6, Try.ntmps6
    go_wp2
    go_ret
    exact ⟨rfl, rfl⟩
  · have h2 : 256 < n := by omega
    have q1 : decide (n < 1) = false := by simpa using h1
    have q2 : decide (256 < n) = true := by simpa using h2
    clear hn
    go_enter Try.func6, Try.ntmps6
    go_wp2
    go_ret
    exact ⟨rfl, rfl⟩
/-- A bag without a thing. -/
def New (w : World) (n : Nat) (e : Ending) (w' : World) : Prop := e = .returned (.pointer (some ⟨w.heap.size, 0, none⟩)) ∧ Bg w' w.heap.size w.heap.size (.slice none 0 0) ⟨[], n, 0⟩ ∧ Below w.heap.size w w'
theorem bnew_any (n : Nat) (w : World) (h1 : 1 ≤ n) (h2 : n ≤ 256) : Calls Try.prog 6 #[.int .i64 (n : Int)] w (New w n) := by
  have q1 : decide ((n : Int) < 1) = false := by simp; omega
  have q2 : decide (256 < (n : Int)) = false := by simp; omega
  have q3 : decide (n < 1) = false := by simp; omega
  have q4 : decide (256 < n) = false := by simp; omega
  have q5 : ¬ n < 1 := by omega
  have q6 : ¬ 256 < n := by omega
  have HN := Lib.hid (And.intro h1 h2)
  clear h1 h2
  unfold New
  go_enter Try.func6, Try.ntmps6
  go_wp2
  go_ret
  refine ⟨rfl, ⟨heap_alloc_new w _, World.ownsRow_nil _ _ _ _, (by intro e; cases e), Nat.le_refl _, Nat.zero_le _, HN.out⟩, (Below.refl _ _).alloc (Nat.le_refl _) _⟩
/-- A thing more. -/
theorem app_one {x : Int} {o : Oper} {ops : Array Oper} {rest : List Oper} {a : Act} {Q : Exit → Act → World → Prop} (h : Bg w B g v t) (hf : t.l.length < 1000) (hB : B ≤ w.heap.size) (hgd : o.guard = none) (s y : Operand)
    (ho : o.op = .call { callee := .builtin .append, args := #[s, y], argTypes := #[26, 26] }) (hs : a.eval s = v) (hy : a.eval y = .slice (some ⟨w.heap.size, 0, none⟩) 1 1)
    (hk : ∀ v' w', w'.ownsRow B 3 1 v' (t.l ++ [x]).length (is (t.l ++ [x])) → Keeps (fun i => v.ownBlock = some i) w w' → (v'.ownBlock = v.ownBlock ∨ ∀ q, v'.ownBlock = some q → w.heap.size ≤ q) → wpList Try.prog ops Q rest (a.put o.dst v') w') :
    wpList Try.prog ops Q (o :: rest) a (w.alloc (.cells #[.int .i64 x] 3)) := by
  have hb : Below w.heap.size w (w.alloc (.cells #[.int .i64 x] 3)) := (Below.refl _ _).alloc (Nat.le_refl _) _
  refine wpL_app hgd s y _ _ ho Ei hs hy (h.below hb).own (Src.lit (w := w) Try.underlying26 #[.int .i64 x] rfl (by intro u hu; simp at hu; subst hu; rfl)) (by unfold maxLen; omega) (by omega) (by simp; omega) ?_
  intro v' w' ho' hg' hat
  refine hk v' w' (by rw [List.length_append, is_app]; exact ho') ((Keeps.of_below hb).grown hg' (fun q hq => .inl hq)) ?_
  rcases hat with e | e
  · exact .inl e
  · refine .inr fun q hq => ?_
    rw [e] at hq
    cases hq
    simp
theorem Bg.addm {x : Int} (h : Bg w B g v t) (hf : t.full = false) {v2 : Value} (k : Keeps (fun i => v.ownBlock = some i) w w1) (ho : w1.ownsRow B 3 1 v2 (t.l ++ [x]).length (is (t.l ++ [x]))) (hv : v2.ownBlock = v.ownBlock ∨ ∀ q, v2.ownBlock = some q → w.heap.size ≤ q) : Mv w B g v (t.add x) (w1.setCell ⟨g, 0, none⟩ v2) := by
  refine h.things k ho hv ?_
  unfold Bv.full at hf
  simp at hf
  simp
  omega
theorem Mv.after (h : Below w.heap.size w w1) (k : Mv w1 B g v t w') : Mv w B g v t w' := by
  obtain ⟨v', h1, h2, h3⟩ := k
  refine ⟨v', h1, (Keeps.of_below (F := Foot g v) h).trans h2 (fun i hi => .inl hi), ?_⟩
  rcases h3 with h3 | h3
  · exact .inl h3
  · exact .inr fun q hq => Nat.le_trans h.size (h3 q hq)
theorem Bg.losem (h : Bg w B g v t) : Mv w B g v t.lose (w.setCell ⟨g, 2, none⟩ (.int .u64 ((t.lost + 1 : Nat) : Int))) := by
  refine ⟨v, ⟨?_, ?_, h.ne, h.lo, h.room, h.most⟩, (Keeps.set w g 2 _).wide (fun i hi => .inl hi), .inl rfl⟩
  · rw [heap_setCell_same w g 2 _ _ _ h.row]; rfl
  · exact (Keeps.set w g 2 _).own h.own (fun q hq e => h.ne (by rw [hq, e]))
/-- Put. -/
theorem bput_any (h : Bg w B g v t) (hB : B ≤ w.heap.size) (x : Int) (hl : t.lost < 1000000) :
    Calls Try.prog 7 #[.pointer (some ⟨g, 0, none⟩), .int .i64 x] w fun e w' => e = .returned (.bool (!t.full)) ∧ Mv w B g v (t.put x) w' := by
  have HM := Lib.hid (made_any h)
  have HF := Lib.hid (full_any h)
  have HH := Lib.hid h
  have HB := Lib.hid hB
  have hsz : t.l.length < 1000 := by have := h.room; have := h.most; omega
  have HS := Lib.hid hsz
  have HLL := Lib.hid hl
  unfold Bv.put
  cases hf : t.full with
  | true =>
    have h63 : (t.lost : Int) + 1 ≤ 18446744073709551615 := by omega
    have hw : IntKind.u64.wrap ((t.lost : Int) + 1) = ((t.lost + 1 : Nat) : Int) := by rw [u64w _ (by omega) (by omega)]; rfl
    rw [hf] at HF
    have HW := Lib.hid hw
    clear h hl hsz hB h63 hw
    go_enter Try.func7, Try.ntmps7
    go_wp2_with (first
      | (go_at_call 17; refine HM.out.mono ?_; rintro e w2 ⟨rfl, rfl⟩)
      | (go_at_call 18; refine HF.out.mono ?_; rintro e w2 ⟨rfl, hb2⟩; have HB2 := Lib.hid hb2; have h2 := HH.out.below hb2; have c2 := h2.c2; have f2 := h2.fr 2; have H2 := Lib.hid h2; clear h2 hb2)
      | fail)
    go_ret
    rw [HW.out]
    exact ⟨rfl, Mv.after HB2.out H2.out.losem⟩
  | false =>
    rw [hf] at HF
    have hf' := Lib.hid hf
    clear h hl hsz hB hf
    go_enter Try.func7, Try.ntmps7
    go_wp2_with (first
      | (go_at_call 17; refine HM.out.mono ?_; rintro e w2 ⟨rfl, rfl⟩)
      | (go_at_call 18; refine HF.out.mono ?_; rintro e w2 ⟨rfl, hb2⟩; have HB2 := Lib.hid hb2; have h2 := HH.out.below hb2; have c0 := h2.c0; have H2 := Lib.hid h2; clear h2 hb2)
      | (at_builtin; refine app_one H2.out HS.out (Nat.le_trans HB.out HB2.out.size) rfl _ _ rfl rfl rfl ?_; intro v3 w3 ho3 hk3 hv3;
         obtain ⟨A3, c3, rfl⟩ := ownsRow_form ho3; have hr3 := hk3.row H2.out.row H2.out.ne; have d0 : w3.cell? ⟨g, 0, none⟩ = some v := cell_of_row w3 g 0 _ _ _ hr3; have f0 := frozen_of_row w3 g 0 _ _ hr3; have HO := Lib.hid ho3; have HK := Lib.hid hk3; have HV := Lib.hid hv3; clear ho3 hk3 hv3 hr3)
      | fail)
    go_ret
    rw [show t.l.length + 1 = (t.l ++ [x]).length by simp]
    exact ⟨rfl, Mv.after HB2.out (H2.out.addm hf'.out HK.out HO.out HV.out)⟩

/-- Clear. -/
theorem bclear_any (h : Bg w B g v t) : Calls Try.prog 10 #[.pointer (some ⟨g, 0, none⟩)] w fun e w' => e = .returned (.int .i64 (t.l.length : Int)) ∧ Mv w B g v t.clear w' := by
  have HL := Lib.hid (len_any h)
  have HH := Lib.hid h
  by_cases h0 : t.l.length = 0
  · have hc : t.clear = t := by
      obtain ⟨l, m, k⟩ := t
      obtain rfl : l = [] := List.eq_nil_of_length_eq_zero h0
      rfl
    rw [hc]
    rw [h0] at HL ⊢
    clear h hc
    go_enter Try.func10, Try.ntmps10
    go_wp2_with (first
      | (go_at_call 15; refine HL.out.mono ?_; rintro e w2 ⟨rfl, rfl⟩)
      | fail)
    go_ret
    exact ⟨rfl, Mv.same HH.out (Below.refl _ _)⟩
  · have d0 : decide (0 < t.l.length) = true := by simp; omega
    have d1 : 0 < t.l.length := by omega
    have c0 := h.c0
    have f0 := h.fr 0
    clear h
    go_enter Try.func10, Try.ntmps10
    obtain ⟨A, c, rfl⟩ := HH.out.form
    go_wp2_with (first
      | (go_at_call 15; refine HL.out.mono ?_; rintro e w2 ⟨rfl, rfl⟩)
      | fail)
    go_ret
    exact ⟨rfl, HH.out.things (l2 := []) (Keeps.refl _ _) (World.ownsRow_nil _ _ _ _) (.inr fun q hq => by cases hq) (Nat.zero_le _)⟩
/-- Double. -/
theorem bdouble_any (h : Bg w B g v t) (hB : B ≤ w.heap.size) (i : Int) :
    Calls Try.prog 9 #[.pointer (some ⟨g, 0, none⟩), .int .i64 i] w fun e w' => e = .returned (.int .i64 (t.why i)) ∧ Mv w B g v (t.double i) w' := by
  have HA := Lib.hid (at_any h i)
  have HF := Lib.hid (full_any h)
  have HH := Lib.hid h
  have HB := Lib.hid hB
  have hsz : t.l.length < 1000 := by have := h.room; have := h.most; omega
  have HS := Lib.hid hsz
  unfold Bv.double Bv.why
  cases hi : t.inb i with
  | false =>
    rw [hi] at HA
    clear h hsz hB
    go_enter Try.func9, Try.ntmps9
    go_wp2_with (first
      | (go_at_call 12; refine HA.out.mono ?_; rintro e w2 ⟨rfl, rfl⟩)
      | fail)
    go_ret
    exact ⟨rfl, Mv.same HH.out (Below.refl _ _)⟩
  | true =>
    rw [hi] at HA
    cases hf : t.full with
    | true =>
      rw [hf] at HF
      clear h hsz hB
      go_enter Try.func9, Try.ntmps9
      go_wp2_with (first
        | (go_at_call 12; refine HA.out.mono ?_; rintro e w2 ⟨rfl, rfl⟩)
        | (go_at_call 18; refine HF.out.mono ?_; rintro e w2 ⟨rfl, hb2⟩)
        | fail)
      go_ret
      exact ⟨rfl, Mv.same HH.out hb2⟩
    | false =>
      rw [hf] at HF
      have hf' := Lib.hid hf
      generalize t.get i = x at *
      clear h hsz hB hf hi
      go_enter Try.func9, Try.ntmps9
      go_wp2_with (first
        | (go_at_call 12; refine HA.out.mono ?_; rintro e w2 ⟨rfl, rfl⟩)
        | (go_at_call 18; refine HF.out.mono ?_; rintro e w2 ⟨rfl, hb2⟩; have HB2 := Lib.hid hb2; have h2 := HH.out.below hb2; have c0 := h2.c0; have H2 := Lib.hid h2; clear h2 hb2)
        | (at_builtin; refine app_one H2.out HS.out (Nat.le_trans HB.out HB2.out.size) rfl _ _ rfl rfl rfl ?_; intro v3 w3 ho3 hk3 hv3;
           obtain ⟨A3, c3, rfl⟩ := ownsRow_form ho3; have hr3 := hk3.row H2.out.row H2.out.ne; have d0 : w3.cell? ⟨g, 0, none⟩ = some v := cell_of_row w3 g 0 _ _ _ hr3; have f0 := frozen_of_row w3 g 0 _ _ hr3; have HO := Lib.hid ho3; have HK := Lib.hid hk3; have HV := Lib.hid hv3; clear ho3 hk3 hv3 hr3)
        | fail)
      go_ret
      rw [show t.l.length + 1 = (t.l ++ [x]).length by simp]
      exact ⟨rfl, Mv.after HB2.out (H2.out.addm hf'.out HK.out HO.out HV.out)⟩
end
end Go.Proofs.Ytdddknncndjbcaa
