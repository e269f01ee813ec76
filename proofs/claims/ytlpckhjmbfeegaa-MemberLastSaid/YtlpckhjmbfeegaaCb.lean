/- New, matches, From of a chain. -/
import Derived.Test.YtlpckhjmbfeegaaCa
namespace Go.Proofs.Ytlpckhjmbfeegaa
open Go.RowKit
set_option maxRecDepth 20000
section
variable {w w' w1 : World} {B g : Nat} {v : Value} {t : Cv}
theorem cnew_none (b o : Nat) (w : World) (h : 4611686018427387904 < b) : Calls Try.prog 11 #[.int .u64 (b : Int), .int .u64 (o : Int)] w fun e w' => e = .returned (.pointer none) ∧ w = w' := by
  have q1 : decide ((4611686018427387904 : Int) < (b : Int)) = true := by simp; omega
  have q2 : decide (4611686018427387904 < b) = true := by simpa using h
  have q3 : (4611686018427387904 : Int) < (b : Int) := by omega
  go_enter Try.func11, Try.ntmps11
  go_wp2
  go_ret
  exact ⟨rfl, rfl⟩
/-- A chain without items. -/
def New (w : World) (b o : Nat) (e : Ending) (w' : World) : Prop := e = .returned (.pointer (some ⟨w.heap.size, 0, none⟩)) ∧ Ck w' w.heap.size w.heap.size (.slice none 0 0) ⟨b, o, []⟩ ∧ Below w.heap.size w w'
theorem cnew_any (b o : Nat) (w : World) (h : b ≤ 4611686018427387904) : Calls Try.prog 11 #[.int .u64 (b : Int), .int .u64 (o : Int)] w (New w b o) := by
  have q1 : decide ((4611686018427387904 : Int) < (b : Int)) = false := by simp; omega
  have q2 : decide (4611686018427387904 < b) = false := by simpa using h
  have q3 : ¬ (4611686018427387904 : Int) < (b : Int) := by omega
  have HH := Lib.hid h
  clear h
  go_enter Try.func11, Try.ntmps11
  go_wp2
  go_ret
  refine ⟨rfl, ⟨heap_alloc_new w _, World.ownsRow_nil _ _ _ _, Nat.le_refl _, Nat.zero_le _, by have := HH.out; show b + 0 < _; omega⟩, (Below.refl _ _).alloc (Nat.le_refl _) _⟩

theorem matches_any (h : Ck w B g v t) (prev term : Nat) : Calls Try.prog 43 #[.pointer (some ⟨g, 0, none⟩), .int .u64 (prev : Int), .int .u64 (term : Int)] w fun e w' => e = .returned (.bool (t.meets prev term)) ∧ Below w.heap.size w w' := by
  have HT := Lib.hid (term_any h prev)
  have HB := Lib.hid (fun W (hb : Below w.heap.size w W) => base_any (h.below hb))
  unfold Cv.meets
  unfold Termed at HT
  generalize t.tm prev = o at *
  clear h
  by_cases y1 : prev < t.base
  · have q1 : decide ((prev : Int) < (t.base : Int)) = true := by simpa using y1
    have q2 : decide (prev < t.base) = true := by simpa using y1
    rw [q2, Bool.true_or]
    generalize o.getD 0 = own at *
    generalize o.isSome = ok at *
    go_enter Try.func43, Try.ntmps43
    go_wp2_with (first
      | (go_at_call 23; refine HT.out.mono ?_; rintro e w2 ⟨rfl, hb2⟩; have HB2 := Lib.hid hb2; clear hb2)
      | (go_at_call 26; refine (HB.out _ HB2.out).mono ?_; rintro e w3 ⟨rfl, rfl⟩)
      | fail)
    go_ret
    exact ⟨rfl, HB2.out⟩
  · have q1 : decide ((prev : Int) < (t.base : Int)) = false := by simpa using y1
    have q2 : decide (prev < t.base) = false := by simpa using y1
    rw [q2, Bool.false_or]
    rcases o with _ | own
    · have q3 : decide ((none : Option Nat) = some term) = false := by simp
      rw [q3]
      clear q3
      simp only [Option.getD_none, Option.isSome_none] at HT
      go_enter Try.func43, Try.ntmps43
      go_wp2_with (first
        | (go_at_call 23; refine HT.out.mono ?_; rintro e w2 ⟨rfl, hb2⟩; have HB2 := Lib.hid hb2; clear hb2)
        | (go_at_call 26; refine (HB.out _ HB2.out).mono ?_; rintro e w3 ⟨rfl, rfl⟩)
        | fail)
      go_ret
      exact ⟨rfl, HB2.out⟩
    · simp only [Option.getD_some, Option.isSome_some] at HT
      by_cases y2 : own = term
      · subst y2
        have q3 : decide (some own = some own) = true := by simp
        rw [q3]
        clear q3
        go_enter Try.func43, Try.ntmps43
        go_wp2_with (first
          | (go_at_call 23; refine HT.out.mono ?_; rintro e w2 ⟨rfl, hb2⟩; have HB2 := Lib.hid hb2; clear hb2)
          | (go_at_call 26; refine (HB.out _ HB2.out).mono ?_; rintro e w3 ⟨rfl, rfl⟩)
          | fail)
        go_ret
        exact ⟨rfl, HB2.out⟩
      · have q3 : decide (some own = some term) = false := by simpa using y2
        rw [q3]
        clear q3
        have q6 : ((own : Int) == (term : Int)) = false := by simp; omega
        have q7 : decide ((own : Int) = (term : Int)) = false := by simp; omega
        have q8 : decide (own = term) = false := by simpa using y2
        go_enter Try.func43, Try.ntmps43
        go_wp2_with (first
          | (go_at_call 23; refine HT.out.mono ?_; rintro e w2 ⟨rfl, hb2⟩; have HB2 := Lib.hid hb2; clear hb2)
          | (go_at_call 26; refine (HB.out _ HB2.out).mono ?_; rintro e w3 ⟨rfl, rfl⟩)
          | fail)
        go_ret
        exact ⟨rfl, HB2.out⟩
theorem mades3 (m : Nat) : List.drop (m * 3) (madeCells (Value.agg itNil.cells).cells (m * 3)).toList = [] := List.drop_eq_nil_of_le (by simp [madeCells])
/-- A row of items of its own. -/
def Rowed (w : World) (ty : TypeId) (l : List It) (e : Ending) (w' : World) : Prop := ∃ A c, e = .returned (.slice A l.length c) ∧ w'.ownsRow w.heap.size ty 3 (.slice A l.length c) l.length (its l) ∧ Below w.heap.size w w'
theorem from_far {i : Nat} (h : t.last < i) : t.from_ i = [] := by
  unfold Cv.last at h
  unfold Cv.from_
  exact List.drop_eq_nil_of_le (by omega)
set_option maxHeartbeats 1000000 in
theorem from_any (h : Ck w B g v t) (i : Nat) (hi : i < 18446744073709551616) : Calls Try.prog 24 #[.pointer (some ⟨g, 0, none⟩), .int .u64 (i : Int)] w (Rowed w 47 (t.from_ i)) := by
  have HB := Lib.hid (base_any h)
  have HL := Lib.hid (last_any h)
  have HS := Lib.hid (seen_any w g)
  by_cases h2 : t.last < i
  · rw [from_far h2]
    have d3 : decide ((t.last : Int) < (i : Int)) = true := by simpa using h2
    have d4 : decide (t.last < i) = true := by simpa using h2
    clear h
    go_enter Try.func24, Try.ntmps24
    go_wp2_with (first
      | (go_at_call 21; refine HL.out.mono ?_; rintro e w2 ⟨rfl, rfl⟩)
      | fail)
    go_ret
    exact ⟨none, 0, rfl, World.ownsRow_nil _ _ _ _, Below.refl _ _⟩
  · have d3 : decide ((t.last : Int) < (i : Int)) = false := by simpa using h2
    have d4 : decide (t.last < i) = false := by simpa using h2
    obtain ⟨A, c, rfl⟩ := h.form
    have c2 := h.c2
    have hroom := h.room
    have hbl : (t.base : Int) < 9000000000000000000 := by have := h.bl; omega
    have hl4 : (t.l.length : Int) ≤ 4096 := by omega
    have hcap : t.l.length ≤ c := (ownsRow_rd h.own).1
    -- from here: the copy
    obtain ⟨k, hk⟩ : ∃ k, k = i - t.base - 1 := ⟨_, rfl⟩
    have hkl : k ≤ t.l.length := by unfold Cv.last at h2; omega
    have hsrc := (ownsRow_rd h.own).drop3 (k := k) rfl hkl
    have hf : t.from_ i = t.l.drop k := by unfold Cv.from_; rw [hk]
    rw [hf]
    have hdl : (t.l.drop k).length = t.l.length - k := List.length_drop
    have HSR := Lib.hid hsrc
    have HOW := Lib.hid h.own
    obtain ⟨m, hm⟩ : ∃ m, t.l.length - k = m := ⟨_, rfl⟩
    rw [hm] at hdl HSR
    have hm4 : (m : Int) ≤ 4096 := by omega
    by_cases h1 : t.base < i
    · have hk3 : k < t.l.length := by unfold Cv.last at h2; omega
      have d1 : decide ((t.base : Int) < (i : Int)) = true := by simpa using h1
      have d2 : decide (t.base < i) = true := by simpa using h1
      obtain ⟨q, o, rfl, hq, _⟩ := (ownsRow_rd h.own).2.2.2 (by omega)
      have hk2 : (k : Int) < 4096 := by omega
      have u1 : IntKind.u64.wrap ((i : Int) - (t.base : Int)) = (k : Int) + 1 := by rw [u64w _ (by omega) (by omega)]; omega
      have u2 : (i : Int) - (t.base : Int) = (k : Int) + 1 := by omega
      have hkl2 : (k : Int) ≤ (t.l.length : Int) := by omega
      have hkc : ¬ c = k := by omega
      have hkc2 : k ≤ c := by omega
      have HSR2 := Lib.hid hsrc
      rw [hm] at HSR2
      simp only [Option.map_some, addOff] at HSR2
      clear h hsrc hk hf HSR
      go_enter Try.func24, Try.ntmps24
      go_wp2_with (first
        | (go_at_call 21; refine HL.out.mono ?_; rintro e w2 ⟨rfl, rfl⟩)
        | (go_at_call 26; refine HB.out.mono ?_; rintro e w2 ⟨rfl, rfl⟩)
        | (go_at_call 47; refine HS.out.mono ?_; rintro e w2 ⟨rfl, rfl⟩)
        | (at_make; refine wpL_make rfl _ _ _ rfl (base := w.heap.size) E_it m rfl rfl rfl rfl (by omega) (by unfold maxLen; omega) (Nat.le_refl _) ?_; intro w2 hown2 hg2
           have HO := Lib.hid hown2
           have hb2 := (Below.refl w.heap.size w).grown hg2 (Nat.le_refl _) (fun _ e => by cases e)
           have HB2 := Lib.hid hb2
           have HS2 := Lib.hid (HSR2.out.below hb2)
           clear hown2 hg2 hb2)
        | (refine wpL_cp rfl (.tmp 30) (.tmp 31) _ _ rfl E_it rfl rfl HO.out (HS2.out.src Try.underlying31 (its_one _)) (Nat.le_refl _) ?_; intro w3 hown3 hg3
           have HO3 := Lib.hid hown3
           have hb3 := HB2.out.grown hg3 HB2.out.size (fun k hk => by cases hk; exact Nat.le_refl _)
           have HB3 := Lib.hid hb3
           clear hown3 hg3 hb3)
        | fail)
      go_ret
      have ho := HO3.out
      rw [mades3, List.append_nil] at ho
      refine ⟨some ⟨w.heap.size, 0, none⟩, m, ?_, ?_, HB3.out⟩
      · rw [hdl]; rfl
      · rw [hdl]; exact ho
    · have d1 : decide ((t.base : Int) < (i : Int)) = false := by simpa using h1
      have d2 : decide (t.base < i) = false := by simpa using h1
      obtain rfl : k = 0 := by omega
      clear h hsrc hk hf
      rw [Nat.sub_zero] at hm
      subst hm
      have HSR' : Hid (Rd w w.heap.size 3 A t.l.length c (its t.l)) := Lib.hid (ownsRow_rd HOW.out)
      clear HSR
      go_enter Try.func24, Try.ntmps24
      go_wp2_with (first
        | (go_at_call 21; refine HL.out.mono ?_; rintro e w2 ⟨rfl, rfl⟩)
        | (go_at_call 26; refine HB.out.mono ?_; rintro e w2 ⟨rfl, rfl⟩)
        | (go_at_call 47; refine HS.out.mono ?_; rintro e w2 ⟨rfl, rfl⟩)
        | (at_make; refine wpL_make rfl _ _ _ rfl (base := w.heap.size) E_it t.l.length rfl rfl rfl rfl (by omega) (by unfold maxLen; omega) (Nat.le_refl _) ?_; intro w2 hown2 hg2
           have HO := Lib.hid hown2
           have hb2 := (Below.refl w.heap.size w).grown hg2 (Nat.le_refl _) (fun _ e => by cases e)
           have HB2 := Lib.hid hb2
           have HS2 := Lib.hid (HSR'.out.below hb2)
           clear hown2 hg2 hb2)
        | (refine wpL_cp rfl (.tmp 30) (.tmp 31) _ _ rfl E_it rfl rfl HO.out (HS2.out.src Try.underlying31 (its_one _)) (Nat.le_refl _) ?_; intro w3 hown3 hg3
           have HO3 := Lib.hid hown3
           have hb3 := HB2.out.grown hg3 HB2.out.size (fun k hk => by cases hk; exact Nat.le_refl _)
           have HB3 := Lib.hid hb3
           clear hown3 hg3 hb3)
        | fail)
      go_ret
      have ho := HO3.out
      rw [mades3, List.append_nil] at ho
      exact ⟨some ⟨w.heap.size, 0, none⟩, t.l.length, rfl, ho, HB3.out⟩
end
end Go.Proofs.Ytlpckhjmbfeegaa
