/- The small calls of a chain: seen, Base, Last, Get, Term, Newer, matches. -/
import Derived.Test.YtlpckhjmbfeegaaCk
import Derived.Test.YtlpckhjmbfeegaaLens
namespace Go.Proofs.Ytlpckhjmbfeegaa
open Go.RowKit
set_option maxRecDepth 20000
section
variable {w w' w1 : World} {B g : Nat} {v : Value} {t : Cv}
theorem seen_any (w : World) (g : Nat) : Calls Try.prog 47 #[.pointer (some ⟨g, 0, none⟩)] w fun e w' => e = .returned (.pointer (some ⟨g, 0, none⟩)) ∧ w = w' := by
  go_enter Try.func47, Try.ntmps47
  go_wp2
  go_ret
  exact ⟨rfl, rfl⟩
theorem base_any (h : Ck w B g v t) : Calls Try.prog 26 #[.pointer (some ⟨g, 0, none⟩)] w fun e w' => e = .returned (.int .u64 (t.base : Int)) ∧ w = w' := by
  have c0 := h.c0
  have HS := Lib.hid (seen_any w g)
  clear h
  go_enter Try.func26, Try.ntmps26
  go_wp2_with (first
    | (go_at_call 47; refine HS.out.mono ?_; rintro e w2 ⟨rfl, rfl⟩)
    | fail)
  go_ret
  exact ⟨rfl, rfl⟩
theorem last_any (h : Ck w B g v t) : Calls Try.prog 21 #[.pointer (some ⟨g, 0, none⟩)] w fun e w' => e = .returned (.int .u64 (t.last : Int)) ∧ w = w' := by
  have HB := Lib.hid (base_any h)
  have HS := Lib.hid (seen_any w g)
  obtain ⟨A, c, rfl⟩ := h.form
  have c2 := h.c2
  have hl : (t.l.length : Int) ≤ 4096 := by have := h.room; omega
  have hb : (t.base : Int) < 9000000000000000000 := by have := h.bl; omega
  clear h
  go_enter Try.func21, Try.ntmps21
  go_wp2_with (first
    | (go_at_call 26; refine HB.out.mono ?_; rintro e w2 ⟨rfl, rfl⟩)
    | (go_at_call 47; refine HS.out.mono ?_; rintro e w2 ⟨rfl, rfl⟩)
    | fail)
  go_ret
  refine ⟨?_, rfl⟩
  simp [Cv.last]
end
theorem results_row_tmp {P : Program} {w : World} {ty : TypeId} {fn : Func} {p q : Tmp} (h : fn.results = #[.cell p ty, .tmp q]) (tmps : Array Value) (g : Nat) (t : TypeId) (cs : Array Value) (fr : Nat × Nat) (d : TypeDesc)
    (hp : tmps.getD p undef = .pointer (some ⟨g, 0, none⟩)) (hg : w.heap[g]? = some (.cells cs t fr))
    (hu : P.underlying ty = some d) (hd : (match d with | .struct _ | .array _ _ => true | _ => false) = true) (hi : (P.info? ty).map (·.size) = some cs.size) :
    (results fn tmps).run P w = .ok (.tuple #[.agg cs, tmps.getD q undef]) w := by
  have hp' : tmps[p]?.getD undef = .pointer (some ⟨g, 0, none⟩) := by simpa using hp
  simp [results, h, hp', asAddr, run_loadVar_row w g t ty cs fr d hg hu hd hi]
theorem it_size : (Try.prog.info? 47).map (·.size) = some 3 := by kernel_rfl
theorem rit_size : (Try.prog.info? 62).map (·.size) = some 3 := by kernel_rfl
/-- What Get tells. -/
def Got (w : World) (o : Option It) (e : Ending) (w' : World) : Prop := e = .returned (.tuple #[.agg (o.getD itNil).cells, .bool o.isSome]) ∧ Below w.heap.size w w'
section
variable {w w' w1 : World} {B g : Nat} {v : Value} {t : Cv}
set_option maxHeartbeats 1000000 in
theorem get_any (h : Ck w B g v t) (i : Nat) : Calls Try.prog 25 #[.pointer (some ⟨g, 0, none⟩), .int .u64 (i : Int)] w (Got w (t.at_ i)) := by
  have HB := Lib.hid (fun W (hb : Below w.heap.size w W) => base_any (h.below hb))
  have HL := Lib.hid (fun W (hb : Below w.heap.size w W) => last_any (h.below hb))
  by_cases h1 : i ≤ t.base
  · rw [at_none h1]
    have d1 : decide ((i : Int) ≤ (t.base : Int)) = true := by simpa using h1
    have d2 : decide (i ≤ t.base) = true := by simpa using h1
    clear h
    go_enter Try.func25, Try.ntmps25
    go_wp2_with (first
      | (go_at_call 26; refine (HB.out _ ((Below.refl _ _).alloc (Nat.le_refl _) _)).mono ?_; rintro e w2 ⟨rfl, rfl⟩)
      | (go_at_call 21; refine (HL.out _ ((Below.refl _ _).alloc (Nat.le_refl _) _)).mono ?_; rintro e w2 ⟨rfl, rfl⟩)
      | fail)
    refine bodyPost_ret (results_row_tmp rfl _ w.heap.size 47 _ (0, 0) _ rfl (heap_alloc_new w _) Try.underlying47 rfl (by rw [it_size]; rfl)) rfl ⟨rfl, (Below.refl _ _).alloc (Nat.le_refl _) _⟩
  · have d1 : decide ((i : Int) ≤ (t.base : Int)) = false := by simpa using h1
    have d2 : decide (i ≤ t.base) = false := by simpa using h1
    by_cases h2 : t.last < i
    · rw [at_far h2]
      have d3 : decide ((t.last : Int) < (i : Int)) = true := by simpa using h2
      have d4 : decide (t.last < i) = true := by simpa using h2
      clear h
      go_enter Try.func25, Try.ntmps25
      go_wp2_with (first
        | (go_at_call 26; refine (HB.out _ ((Below.refl _ _).alloc (Nat.le_refl _) _)).mono ?_; rintro e w2 ⟨rfl, rfl⟩)
        | (go_at_call 21; refine (HL.out _ ((Below.refl _ _).alloc (Nat.le_refl _) _)).mono ?_; rintro e w2 ⟨rfl, rfl⟩)
        | fail)
      refine bodyPost_ret (results_row_tmp rfl _ w.heap.size 47 _ (0, 0) _ rfl (heap_alloc_new w _) Try.underlying47 rfl (by rw [it_size]; rfl)) rfl ⟨rfl, (Below.refl _ _).alloc (Nat.le_refl _) _⟩
    · have d3 : decide ((t.last : Int) < (i : Int)) = false := by simpa using h2
      have d4 : decide (t.last < i) = false := by simpa using h2
      obtain ⟨x, hx, hx2⟩ := at_in (Nat.lt_of_not_le h1) (Nat.le_of_not_lt h2)
      rw [hx]
      clear hx
      obtain ⟨k, hk⟩ : ∃ k, k = i - t.base - 1 := ⟨_, rfl⟩
      rw [← hk] at hx2
      have hkl : k < t.l.length := (List.getElem?_eq_some_iff.1 hx2).1
      obtain ⟨A, c, rfl⟩ := h.form
      have hb : Below w.heap.size w (w.alloc (.cells #[.int .u64 0, .int .i64 0, .string ⟨#[]⟩] 47)) := (Below.refl _ _).alloc (Nat.le_refl _) _
      have h' := h.below hb
      have c0 := h'.c0
      have c2 := h'.c2
      obtain ⟨b, o, rfl, hbb, e0, e1, e2⟩ := (ownsRow_rd h'.own).item rfl hx2
      have hne : b ≠ w.heap.size := by
        intro e
        have := (h.own.lt b (by rfl)).2
        omega
      have hk2 : (k : Int) < 4096 := by have := h.room; omega
      have hbl : (t.base : Int) < 9000000000000000000 := by have := h.bl; omega
      have u1 : IntKind.u64.wrap ((i : Int) - (t.base : Int)) = (k : Int) + 1 := by rw [u64w _ (by omega) (by omega)]; omega
      have u2 : (i : Int) - (t.base : Int) = (k : Int) + 1 := by omega
      have hkl2 : (k : Int) < (t.l.length : Int) := by omega
      have f0 := frozen_of_row _ w.heap.size 0 _ _ (heap_alloc_new w (.cells #[.int .u64 0, .int .i64 0, .string ⟨#[]⟩] 47))
      have f1 := frozen_of_row _ w.heap.size 1 _ _ (heap_alloc_new w (.cells #[.int .u64 0, .int .i64 0, .string ⟨#[]⟩] 47))
      have f2 := frozen_of_row _ w.heap.size 2 _ _ (heap_alloc_new w (.cells #[.int .u64 0, .int .i64 0, .string ⟨#[]⟩] 47))
      clear h h' hx2 hk hbb
      go_enter Try.func25, Try.ntmps25
      go_wp2_with (first
        | (go_at_call 26; refine (HB.out _ ((Below.refl _ _).alloc (Nat.le_refl _) _)).mono ?_; rintro e w2 ⟨rfl, rfl⟩)
        | (go_at_call 21; refine (HL.out _ ((Below.refl _ _).alloc (Nat.le_refl _) _)).mono ?_; rintro e w2 ⟨rfl, rfl⟩)
        | fail)
      go_big_region
      all_goals go_wp2
      all_goals refine bodyPost_ret (results_row_tmp rfl _ w.heap.size 47 _ (0, 0) _ rfl (heap_alloc_new w _) Try.underlying47 rfl (by rw [it_size]; rfl)) rfl ⟨rfl, ((Below.refl _ _).alloc (Nat.le_refl _) _).drew⟩
end
/-- What Term tells. -/
def Termed (w : World) (o : Option Nat) (e : Ending) (w' : World) : Prop := e = .returned (.tuple #[.int .u64 ((o.getD 0 : Nat) : Int), .bool o.isSome]) ∧ Below w.heap.size w w'
section
variable {w w' w1 : World} {B g : Nat} {v : Value} {t : Cv}
set_option maxHeartbeats 1000000 in
theorem term_any (h : Ck w B g v t) (i : Nat) : Calls Try.prog 23 #[.pointer (some ⟨g, 0, none⟩), .int .u64 (i : Int)] w (Termed w (t.tm i)) := by
  have HB := Lib.hid (base_any h)
  have HG := Lib.hid (get_any h i)
  have HS := Lib.hid (seen_any w g)
  have c1 := h.c1
  unfold Cv.tm
  by_cases h1 : i = t.base
  · rw [if_pos h1]
    clear h HG
    subst h1
    go_enter Try.func23, Try.ntmps23
    go_wp2_with (first
      | (go_at_call 26; refine HB.out.mono ?_; rintro e w2 ⟨rfl, rfl⟩)
      | (go_at_call 47; refine HS.out.mono ?_; rintro e w2 ⟨rfl, rfl⟩)
      | fail)
    go_ret2
    exact ⟨rfl, Below.refl _ _⟩
  · rw [if_neg h1]
    have d1 : decide ((i : Int) = (t.base : Int)) = false := by simp; omega
    have d2 : ((i : Int) == (t.base : Int)) = false := by simp; omega
    clear h
    unfold Got at HG
    have hx : ∀ e w', (e = .returned (.tuple #[.int .u64 ((((t.at_ i).getD itNil).tm : Nat) : Int), .bool (t.at_ i).isSome]) ∧ Below w.heap.size w w') → Termed w ((t.at_ i).map It.tm) e w' := by
      rcases t.at_ i with _ | x
      · exact fun _ _ h => h
      · exact fun _ _ h => h
    refine Calls.mono ?_ hx
    clear hx
    generalize (t.at_ i).isSome = ok at *
    generalize (t.at_ i).getD itNil = x at *
    obtain ⟨tm, kd, tx⟩ := x
    unfold It.cells at HG
    dsimp only at *
    go_enter Try.func23, Try.ntmps23
    go_wp2_with (first
      | (go_at_call 26; refine HB.out.mono ?_; rintro e w2 ⟨rfl, rfl⟩)
      | (go_at_call 25; refine HG.out.mono ?_; rintro e w2 ⟨rfl, hb2⟩; have HB2 := Lib.hid hb2; clear hb2)
      | fail)
    go_ret2
    exact ⟨rfl, HB2.out.alloc HB2.out.size _⟩
theorem newer_any (h : Ck w B g v t) (last term : Nat) : Calls Try.prog 50 #[.pointer (some ⟨g, 0, none⟩), .int .u64 (last : Int), .int .u64 (term : Int)] w fun e w' => e = .returned (.bool (t.newer last term)) ∧ Below w.heap.size w w' := by
  have HL := Lib.hid (last_any h)
  have HT := Lib.hid (term_any h t.last)
  have HL2 := Lib.hid (fun W (hb : Below w.heap.size w W) => last_any (h.below hb))
  unfold Cv.newer Cv.term
  unfold Termed at HT
  generalize (t.tm t.last).getD 0 = own at *
  generalize (t.tm t.last).isSome = ok at *
  generalize t.last = m at *
  clear h
  by_cases y1 : own < term
  · have q1 : decide ((own : Int) < (term : Int)) = true := by simpa using y1
    have q2 : decide (own < term) = true := by simpa using y1
    rw [q2, Bool.true_or]
    go_enter Try.func50, Try.ntmps50
    go_wp2_with (first
      | (go_at_call 23; refine HT.out.mono ?_; rintro e w2 ⟨rfl, hb2⟩; have HB2 := Lib.hid hb2; clear hb2)
      | (go_at_call 21; refine HL.out.mono ?_; rintro e w3 ⟨rfl, rfl⟩)
      | fail)
    go_ret
    exact ⟨rfl, HB2.out⟩
  · have q1 : decide ((own : Int) < (term : Int)) = false := by simpa using y1
    have q2 : decide (own < term) = false := by simpa using y1
    rw [q2, Bool.false_or]
    by_cases y2 : term = own
    · have q3 : decide (term = own) = true := by simpa using y2
      rw [q3, Bool.true_and]
      by_cases y3 : m ≤ last
      · have q4 : decide ((m : Int) ≤ (last : Int)) = true := by simpa using y3
        have q5 : decide (m ≤ last) = true := by simpa using y3
        rw [q5]
        subst y2
        go_enter Try.func50, Try.ntmps50
        go_wp2_with (first
          | (go_at_call 23; refine HT.out.mono ?_; rintro e w2 ⟨rfl, hb2⟩; have HB2 := Lib.hid hb2; clear hb2)
          | (go_at_call 21; refine (HL2.out _ HB2.out).mono ?_; rintro e w3 ⟨rfl, rfl⟩)
          | (go_at_call 21; refine HL.out.mono ?_; rintro e w3 ⟨rfl, rfl⟩)
          | fail)
        go_ret
        exact ⟨rfl, HB2.out⟩
      · have q4 : decide ((m : Int) ≤ (last : Int)) = false := by simpa using y3
        have q5 : decide (m ≤ last) = false := by simpa using y3
        rw [q5]
        subst y2
        go_enter Try.func50, Try.ntmps50
        go_wp2_with (first
          | (go_at_call 23; refine HT.out.mono ?_; rintro e w2 ⟨rfl, hb2⟩; have HB2 := Lib.hid hb2; clear hb2)
          | (go_at_call 21; refine (HL2.out _ HB2.out).mono ?_; rintro e w3 ⟨rfl, rfl⟩)
          | (go_at_call 21; refine HL.out.mono ?_; rintro e w3 ⟨rfl, rfl⟩)
          | fail)
        go_ret
        exact ⟨rfl, HB2.out⟩
    · have q3 : decide (term = own) = false := by simpa using y2
      have q6 : ((term : Int) == (own : Int)) = false := by simp; omega
      have q7 : decide ((term : Int) = (own : Int)) = false := by simp; omega
      rw [q3, Bool.false_and]
      go_enter Try.func50, Try.ntmps50
      go_wp2_with (first
        | (go_at_call 23; refine HT.out.mono ?_; rintro e w2 ⟨rfl, hb2⟩; have HB2 := Lib.hid hb2; clear hb2)
        | (go_at_call 21; refine HL.out.mono ?_; rintro e w3 ⟨rfl, rfl⟩)
        | fail)
      go_ret
      exact ⟨rfl, HB2.out⟩
end
end Go.Proofs.Ytlpckhjmbfeegaa
