/- put: items stand behind another one. -/
import Derived.Test.YtlpckhjmbfeegaaCd
namespace Go.Proofs.Ytlpckhjmbfeegaa
open Go.RowKit
set_option maxRecDepth 20000
theorem keeps_cell {F : Nat → Prop} {w w' : World} {b o : Nat} {u : Value} (h : Keeps F w w') (hc : w.cell? ⟨b, o, none⟩ = some u) (hF : ¬ F b) : w'.cell? ⟨b, o, none⟩ = some u := by
  have hl := World.block_lt_of_cell? w _ hc
  have hb := h.block b hl hF
  simp only [World.cell?, hb] at hc ⊢
  exact hc
/-- append at its operation, in a drawn region. -/
theorem wp_app {P : Program} {w : World} {o : Oper} {a : Act} {K : Act → World → Prop} {Q : Exit → Act → World → Prop} (s x : Operand) (t tx : TypeId)
    (ho : o.op = .call { callee := .builtin .append, args := #[s, x], argTypes := #[t, tx] })
    {base m n sz bt : Nat} {e : TypeId} {z v y : Value} {xs news : List Value} (hT : Elem P t e z sz bt) (hs : a.eval s = v) (hx : a.eval x = y) (hown : w.ownsRow base e sz v n xs) (hsrc : Src P sz tx y m news w)
    (h63 : n + m ≤ maxLen) (hbytes : (n + m) * bt ≤ 140737488355328) (hbase : base ≤ w.heap.size)
    (h : ∀ v' w', w'.ownsRow base e sz v' (n + m) (xs ++ news) → w.grownBy w' v.ownBlock → (v'.ownBlock = v.ownBlock ∨ v'.ownBlock = some w.heap.size) → K (a.put o.dst v') w') : o.wp P a w K Q := by
  obtain ⟨v', w', hr, h1, h2, h3⟩ := run_app (ty := o.type) hT hown hsrc h63 hbytes hbase
  unfold Oper.wp execOp
  simp only [ho, resolve, invoke, builtin, Sem.run_bind, Sem.run_pure, Result.andThen_ok, List.map_toArray, List.map_cons, List.map_nil, hs, hx, hr]
  exact h v' w' h1 h2 h3
theorem Rd.apart {w w' : World} {F : Nat → Prop} {B sz n c : Nat} {A : Option Addr} {xs : List Value} (h : Rd w B sz A n c xs) (hB : B ≤ w.heap.size) (k : Keeps F w w') (hs : 0 < n → ∀ b o, A = some ⟨b, o, none⟩ → ¬ F b) : Rd w' B sz A n c xs := by
  obtain ⟨h1, h2, h3, h4⟩ := h
  refine ⟨h1, h2, h3, fun hn => ?_⟩
  obtain ⟨b, o, hA, hb, hc⟩ := h4 hn
  exact ⟨b, o, hA, hb, fun j u hu => keeps_cell k (hc j u hu) (hs hn b o hA)⟩
theorem own_same (A : Option Addr) (n c m d : Nat) : (Value.slice A n c).ownBlock = (Value.slice A m d).ownBlock := by cases A <;> rfl
/-- A slice of items beside a chain. -/
structure Beside (w : World) (g : Nat) (v : Value) (A : Option Addr) (n c : Nat) (l : List It) : Prop where
  rd : Rd w w.heap.size 3 A n c (its l)
  len : l.length = n
  few : n ≤ 5000
  sep : 0 < n → ∀ b o, A = some ⟨b, o, none⟩ → ¬ Foot g v b
theorem Beside.keeps {w w' : World} {g : Nat} {v : Value} {A : Option Addr} {n c : Nat} {l : List It} (h : Beside w g v A n c l) (k : Keeps (Foot g v) w w') : Beside w' g v A n c l :=
  ⟨(h.rd.apart (Nat.le_refl _) k h.sep).more k.size, h.len, h.few, h.sep⟩
theorem up_at {a i : Nat} {l : List It} {x : It} (h : l[i]? = some x) : up a (l.drop i) = (decide (a ≤ x.tm) && up x.tm (l.drop (i + 1))) := by
  obtain ⟨hi, rfl⟩ := List.getElem?_eq_some_iff.1 h
  rw [List.drop_eq_getElem_cons hi]
  rfl
section
variable {w w' w1 : World} {B g : Nat} {v : Value} {t : Cv}
theorem put_id {k : Nat} {l : List It} (h : t.stop k l ≠ 0) : t.put k l = t := by unfold Cv.put; rw [if_neg h]
/-- What put tells and makes. -/
def Puts (w : World) (B g : Nat) (v : Value) (t : Cv) (k : Nat) (l : List It) (e : Ending) (w' : World) : Prop := e = .returned (.int .i64 (t.stop k l)) ∧ Mv w B g v (t.put k l) w'
set_option maxHeartbeats 4000000 in
theorem put_any (h : Ck w B g v t) (hB : B ≤ w.heap.size) (k : Nat) (hk : t.base ≤ k) (hk2 : k ≤ t.last) {A : Option Addr} {n c : Nat} {l : List It} (hl : Beside w g v A n c l) (hbd : k + n < 9000000000000000000) :
    Calls Try.prog 41 #[.pointer (some ⟨g, 0, none⟩), .int .u64 (k : Int), .slice A n c] w (Puts w B g v t k l) := by
  have HT := Lib.hid (term_any h k)
  obtain ⟨Av, cc, rfl⟩ := h.form
  have c0 := h.c0
  have hbl := h.bl
  have hrm := h.room
  have hfw := hl.few
  obtain ⟨s, hs⟩ : ∃ s, s = k - t.base := ⟨_, rfl⟩
  have hks : k = t.base + s := by omega
  have hsl : s ≤ t.l.length := by unfold Cv.last at hk2; omega
  have u1 : (k : Int) - (t.base : Int) = (s : Int) := by omega
  have u2 : IntKind.u64.wrap ((k : Int) - (t.base : Int)) = (s : Int) := by rw [u64w _ (by omega) (by omega)]; omega
  have sI : (s : Int) ≤ 4096 := by omega
  have nI : (n : Int) ≤ 5000 := by omega
  have bI : (t.base : Int) < 9000000000000000000 := by omega
  have HH := Lib.hid h
  have HL := Lib.hid hl
  have HB := Lib.hid hB
  have HS := Lib.hid hs
  have HSL := Lib.hid hsl
  have HBD := Lib.hid hbd
  have HKS := Lib.hid hks
  by_cases h1 : 4096 < s + n
  · have hst : t.stop k l = 31 := by unfold Cv.stop; rw [hl.len, ← hs, if_pos h1]
    have hp := put_id (t := t) (k := k) (l := l) (by rw [hst]; decide)
    have d1 : decide ((4096 : Int) < (s : Int) + (n : Int)) = true := by simp; omega
    have d2 : (4096 : Int) < (s : Int) + (n : Int) := by omega
    have d3 : decide (4096 < s + n) = true := by simpa using h1
    unfold Puts
    rw [hst, hp]
    clear h hl hB hs hsl hbd hks HT hst hp hk hk2 hrm hfw
    go_enter Try.func41, Try.ntmps41
    go_wp2_with (fail)
    go_ret
    exact ⟨rfl, Mv.same HH.out (Below.refl _ _)⟩
  · have d1 : decide ((4096 : Int) < (s : Int) + (n : Int)) = false := by simp; omega
    have d2 : ¬ (4096 : Int) < (s : Int) + (n : Int) := by omega
    have d3 : decide (4096 < s + n) = false := by simpa using h1
    have HST : Hid (t.stop k l = if up (t.term k) l then 0 else 2) := Lib.hid (by unfold Cv.stop; rw [hl.len, ← hs, if_neg h1])
    have H4 := Lib.hid h1
    unfold Termed at HT
    have hTm : (t.tm k).getD 0 = t.term k := rfl
    rw [hTm] at HT
    clear hTm
    generalize (t.tm k).isSome = ok at *
    obtain ⟨a0, ha0⟩ : ∃ a, a = t.term k := ⟨_, rfl⟩
    rw [← ha0] at HT HST
    clear h hl hB hs hsl hbd hks hk hk2 hrm hfw ha0 h1
    go_enter Try.func41, Try.ntmps41
    go_wp2_with (first
      | (go_at_call 23; refine HT.out.mono ?_; rintro e w2 ⟨rfl, hb2⟩; have HB2 := Lib.hid hb2; clear hb2)
      | fail)
    go_loopw [8, 34] (fun ar ir wr => ∃ i a : Nat, i ≤ n ∧ ar = .int .u64 (a : Int) ∧ ir = .int .i64 (i : Int) ∧ Hid (up a0 l = up a (l.drop i)) ∧ Hid (Below w.heap.size w wr)) (fun _ ir _ => n - (intOf ir).toNat)
    case atStart => exact ⟨0, a0, Nat.zero_le _, rfl, rfl, Lib.hid rfl, HB2⟩
    case round =>
      obtain ⟨i, a, hi, rfl, rfl, HU, HBR⟩ := hrel
      by_cases hlt : i < n
      · obtain ⟨x, hx⟩ : ∃ x, l[i]? = some x := ⟨_, List.getElem?_eq_getElem (by have := HL.out.len; omega)⟩
        have hrd := (HL.out.keeps (Keeps.of_below HBR.out)).rd
        obtain ⟨b, o, rfl, hbb, e0, e1, e2⟩ := hrd.item HL.out.len hx
        have hUx := up_at (a := a) hx
        rw [← HU.out] at hUx
        have HUX := Lib.hid hUx
        have hlti : (i : Int) < (n : Int) := by omega
        have d5 : decide ((i : Int) < (n : Int)) = true := by simpa using hlti
        clear hrd hx hUx HU
        obtain ⟨xt, xk, xx⟩ := x
        dsimp only at *
        by_cases hxa : xt < a
        · have d6 : decide ((xt : Int) < (a : Int)) = true := by simpa using hxa
          have d7 : decide (xt < a) = true := by simpa using hxa
          go_wp2
          go_ret
          have hup : up a0 l = false := by rw [HUX.out]; simp; omega
          have hst : t.stop k l = 2 := by rw [HST.out, hup]; rfl
          unfold Puts
          rw [hst, put_id (by rw [hst]; decide)]
          exact ⟨rfl, Mv.same HH.out (HBR.out.alloc HBR.out.size _)⟩
        · have d6 : decide ((xt : Int) < (a : Int)) = false := by simpa using hxa
          have d7 : decide (xt < a) = false := by simpa using hxa
          go_wp2
          refine ⟨⟨i + 1, xt, by omega, rfl, by go_num, Lib.hid ?_, Lib.hid (HBR.out.alloc HBR.out.size _)⟩, by simp [intOf]; omega⟩
          rw [HUX.out, decide_eq_true (by omega), Bool.true_and]
      · obtain rfl : i = n := by omega
        have d5 : decide ((i : Int) < (i : Int)) = false := by simp
        have hup : up a0 l = true := by rw [HU.out, List.drop_eq_nil_of_le (by have := HL.out.len; omega)]; rfl
        have hst : t.stop k l = 0 := by rw [HST.out, hup]; rfl
        have HP : Hid (t.put k l = { t with l := t.l.take s ++ l }) := Lib.hid (by unfold Cv.put; rw [if_pos hst, HS.out]; rfl)
        have HST0 := Lib.hid hst
        have H3 := Lib.hid (HH.out.below HBR.out)
        have HL3 := Lib.hid (HL.out.keeps (Keeps.of_below HBR.out))
        have HB3 := Lib.hid (Nat.le_trans HB.out HBR.out.size)
        clear hup hst hlt HU
        go_wp2_with (fail)
        have HD := Lib.hid (fun W (hW : Ck W B g (.slice Av t.l.length cc) t) => delete_any hW.own s HSL.out (by have := hW.room; omega))
        have HLN := Lib.hid HL.out.len
        have hs4 : s + i ≤ 4096 := by have := H4.out; omega
        refine wp_treeF (Foot g (.slice Av t.l.length cc)) (.two [0, 1, 2, 3, 5, 6, 7, 8, 12] 4 9 (.one [] 9 (.one [10] 11 (.one [] 13 (.one [14, 15] 16 (.fin []))))) (.one [10] 4 (.one [] 11 (.one [] 13 (.one [14, 15] 16 (.fin [])))))) (by kernel_rfl) (by kernel_rfl) (fun d _ _ _ _ h => by cases d <;> exact h) fun wd hbd => ?_
        intro q hq
        simp only [pickI, Option.toList_some, List.cons_append, List.nil_append, List.getElem?_toArray, List.getElem?_cons_succ, List.getElem?_cons_zero]
        try go_frame
        iterate 9 go_big_quiet_step (fail)
        refine wpQuiet_nil ?_
        clear hq q
        have HWD := Lib.hid (H3.out.below hbd)
        have HD := Lib.hid (HD.out wd HWD.out)
        have HK0 : Hid (Keeps (Foot g (.slice Av t.l.length cc)) wr wd) := Lib.hid (Keeps.of_below hbd)
        have HLD := Lib.hid (HL3.out.keeps HK0.out)
        have HBDD := Lib.hid hbd
        have HBD2 := Lib.hid (Nat.le_trans HB3.out hbd.size)
        have e0 := HWD.out.c2
        clear hbd
        constructor
        · refine seg_op (by simp only [List.getElem?_toArray, List.getElem?_cons_succ, List.getElem?_cons_zero]; rfl) fun K hK => ?_
          go_simp
          refine hK.out _ _ ⟨HK0.out, ?_⟩
          clear hK K
          try go_frame
          intro q hq
          refine wpQuiet_nil ?_
          clear hq q
          refine seg_op (by simp only [List.getElem?_toArray, List.getElem?_cons_succ, List.getElem?_cons_zero]; rfl) fun K hK => ?_
          go_simp
          refine hK.out _ _ ⟨HK0.out, ?_⟩
          clear hK K
          try go_frame
          intro q hq
          simp only [pickI, Option.toList_some, List.cons_append, List.nil_append, List.getElem?_toArray, List.getElem?_cons_succ, List.getElem?_cons_zero]
          go_big_quiet_step (fail)
          refine wpQuiet_nil ?_
          clear hq q
          refine seg_op (by simp only [List.getElem?_toArray, List.getElem?_cons_succ, List.getElem?_cons_zero]; rfl) fun K hK => ?_
          go_simp
          refine HD.out.mono ?_
          rintro e w4 ⟨rfl, ho4, hg4⟩
          have HO4 := Lib.hid ho4
          have hk4 : Keeps (fun j => (Value.slice Av t.l.length cc).ownBlock = some j) wd w4 := (Keeps.refl _ _).grown hg4 (fun q hq => .inl hq)
          have HK4 := Lib.hid hk4
          have HK4W := Lib.hid (HK0.out.trans (hk4.wide (F' := Foot g (.slice Av t.l.length cc)) (fun j hj => .inr hj)) (fun j hj => .inl hj))
          have HL4 := Lib.hid (HLD.out.keeps (hk4.wide (F' := Foot g (.slice Av t.l.length cc)) (fun j hj => .inr hj)))
          refine hK.out _ _ ⟨HK4W.out, ?_⟩
          clear hK K ho4 hg4 hk4
          try go_frame
          intro q hq
          refine wpQuiet_nil ?_
          clear hq q
          refine seg_op (by simp only [List.getElem?_toArray, List.getElem?_cons_succ, List.getElem?_cons_zero]; rfl) fun K hK => ?_
          rw [if_pos (by rfl)]
          refine wp_app (.tmp 56) (.tmp 57) _ _ rfl E_it rfl rfl HO4.out (HL4.out.rd.src Try.underlying31 (its_one _)) (by unfold maxLen; omega) (by omega) (Nat.le_trans HBD2.out HK4.out.size) ?_
          intro v5 w5 hown5 hg5' hat5'
          have hg5 : w4.grownBy w5 (Value.slice Av t.l.length cc).ownBlock := by rw [own_same Av t.l.length cc s cc]; exact hg5'
          have hat5 : v5.ownBlock = (Value.slice Av t.l.length cc).ownBlock ∨ v5.ownBlock = some w4.heap.size := by rw [own_same Av t.l.length cc s cc]; exact hat5'
          obtain ⟨A5, c5, rfl⟩ := ownsRow_form hown5
          have hk5 : Keeps (fun j => (Value.slice Av t.l.length cc).ownBlock = some j) wd w5 := HK4.out.grown hg5 (fun q hq => .inl hq)
          have hm5 := HWD.out.items (l2 := t.l.take s ++ l) hk5 (by rw [List.length_append, List.length_take, HLN.out, Nat.min_eq_left HSL.out, its_app]; exact hown5) (hat5.imp id (fun e q hq => by rw [e] at hq; cases hq; exact HK4.out.size)) (by rw [List.length_append, List.length_take, HLN.out, Nat.min_eq_left HSL.out]; omega) (by rw [List.length_append, List.length_take, HLN.out, Nat.min_eq_left HSL.out]; have := HBD.out; have := HKS.out; omega)
          have hr5 := hk5.row HWD.out.row HWD.out.ne
          have f0 : w5.frozen? ⟨g, 2, none⟩ = false := frozen_of_row w5 g 2 _ _ hr5
          have d0 : w5.cell? ⟨g, 2, none⟩ = some (.slice Av t.l.length cc) := keeps_cell hk5 HWD.out.c2 HWD.out.ne
          have hk5a : Keeps (Foot g (.slice Av t.l.length cc)) wr w5 := HK0.out.trans (hk5.wide (F' := Foot g (.slice Av t.l.length cc)) (fun j hj => .inr hj)) (fun j hj => .inl hj)
          have HM5 := Lib.hid hm5
          have HK5 := Lib.hid (hk5a.trans ((Keeps.set w5 g 2 (.slice A5 (s + i) c5)).wide (F' := Foot g (.slice Av t.l.length cc)) (fun j hj => .inl hj)) (fun j hj => .inl hj))
          refine hK.out _ _ ⟨hk5a, ?_⟩
          clear hK K hown5 hg5 hat5 hg5' hat5' hk5 hm5 hr5 hk5a
          try go_frame
          intro q hq
          simp only [pickI, Option.toList_some, List.cons_append, List.nil_append, List.getElem?_toArray, List.getElem?_cons_succ, List.getElem?_cons_zero]
          iterate 2 go_big_quiet_step (fail)
          refine wpQuiet_nil ?_
          clear hq q
          refine seg_op (by simp only [List.getElem?_toArray, List.getElem?_cons_succ, List.getElem?_cons_zero]; rfl) fun K hK => ?_
          go_simp
          refine hK.out _ _ ⟨HK5.out, ?_⟩
          clear hK K
          try go_frame
          intro q hq
          refine wpQuiet_nil ?_
          clear hq q
          have e5 : s + i = (t.l.take s ++ l).length := by rw [List.length_append, List.length_take, HLN.out, Nat.min_eq_left HSL.out]
          go_wp2_with (fail)
          go_ret
          unfold Puts
          rw [HST0.out, HP.out]
          refine ⟨rfl, ?_⟩
          have := Mv.after (HBR.out.trans (HBDD.out.mono HBR.out.size)) HM5.out
          simpa using this
        · refine seg_op (by simp only [List.getElem?_toArray, List.getElem?_cons_succ, List.getElem?_cons_zero]; rfl) fun K hK => ?_
          go_simp
          refine hK.out _ _ ⟨HK0.out, ?_⟩
          clear hK K
          try go_frame
          intro q hq
          simp only [pickI, Option.toList_some, List.cons_append, List.nil_append, List.getElem?_toArray, List.getElem?_cons_succ, List.getElem?_cons_zero]
          go_big_quiet_step (fail)
          refine wpQuiet_nil ?_
          clear hq q
          refine seg_op (by simp only [List.getElem?_toArray, List.getElem?_cons_succ, List.getElem?_cons_zero]; rfl) fun K hK => ?_
          go_simp
          refine hK.out _ _ ⟨HK0.out, ?_⟩
          clear hK K
          try go_frame
          intro q hq
          refine wpQuiet_nil ?_
          clear hq q
          refine seg_op (by simp only [List.getElem?_toArray, List.getElem?_cons_succ, List.getElem?_cons_zero]; rfl) fun K hK => ?_
          go_simp
          refine HD.out.mono ?_
          rintro e w4 ⟨rfl, ho4, hg4⟩
          have HO4 := Lib.hid ho4
          have hk4 : Keeps (fun j => (Value.slice Av t.l.length cc).ownBlock = some j) wd w4 := (Keeps.refl _ _).grown hg4 (fun q hq => .inl hq)
          have HK4 := Lib.hid hk4
          have HK4W := Lib.hid (HK0.out.trans (hk4.wide (F' := Foot g (.slice Av t.l.length cc)) (fun j hj => .inr hj)) (fun j hj => .inl hj))
          have HL4 := Lib.hid (HLD.out.keeps (hk4.wide (F' := Foot g (.slice Av t.l.length cc)) (fun j hj => .inr hj)))
          refine hK.out _ _ ⟨HK4W.out, ?_⟩
          clear hK K ho4 hg4 hk4
          try go_frame
          intro q hq
          refine wpQuiet_nil ?_
          clear hq q
          refine seg_op (by simp only [List.getElem?_toArray, List.getElem?_cons_succ, List.getElem?_cons_zero]; rfl) fun K hK => ?_
          rw [if_pos (by rfl)]
          refine wp_app (.tmp 56) (.tmp 57) _ _ rfl E_it rfl rfl HO4.out (HL4.out.rd.src Try.underlying31 (its_one _)) (by unfold maxLen; omega) (by omega) (Nat.le_trans HBD2.out HK4.out.size) ?_
          intro v5 w5 hown5 hg5' hat5'
          have hg5 : w4.grownBy w5 (Value.slice Av t.l.length cc).ownBlock := by rw [own_same Av t.l.length cc s cc]; exact hg5'
          have hat5 : v5.ownBlock = (Value.slice Av t.l.length cc).ownBlock ∨ v5.ownBlock = some w4.heap.size := by rw [own_same Av t.l.length cc s cc]; exact hat5'
          obtain ⟨A5, c5, rfl⟩ := ownsRow_form hown5
          have hk5 : Keeps (fun j => (Value.slice Av t.l.length cc).ownBlock = some j) wd w5 := HK4.out.grown hg5 (fun q hq => .inl hq)
          have hm5 := HWD.out.items (l2 := t.l.take s ++ l) hk5 (by rw [List.length_append, List.length_take, HLN.out, Nat.min_eq_left HSL.out, its_app]; exact hown5) (hat5.imp id (fun e q hq => by rw [e] at hq; cases hq; exact HK4.out.size)) (by rw [List.length_append, List.length_take, HLN.out, Nat.min_eq_left HSL.out]; omega) (by rw [List.length_append, List.length_take, HLN.out, Nat.min_eq_left HSL.out]; have := HBD.out; have := HKS.out; omega)
          have hr5 := hk5.row HWD.out.row HWD.out.ne
          have f0 : w5.frozen? ⟨g, 2, none⟩ = false := frozen_of_row w5 g 2 _ _ hr5
          have d0 : w5.cell? ⟨g, 2, none⟩ = some (.slice Av t.l.length cc) := keeps_cell hk5 HWD.out.c2 HWD.out.ne
          have hk5a : Keeps (Foot g (.slice Av t.l.length cc)) wr w5 := HK0.out.trans (hk5.wide (F' := Foot g (.slice Av t.l.length cc)) (fun j hj => .inr hj)) (fun j hj => .inl hj)
          have HM5 := Lib.hid hm5
          have HK5 := Lib.hid (hk5a.trans ((Keeps.set w5 g 2 (.slice A5 (s + i) c5)).wide (F' := Foot g (.slice Av t.l.length cc)) (fun j hj => .inl hj)) (fun j hj => .inl hj))
          refine hK.out _ _ ⟨hk5a, ?_⟩
          clear hK K hown5 hg5 hat5 hg5' hat5' hk5 hm5 hr5 hk5a
          try go_frame
          intro q hq
          simp only [pickI, Option.toList_some, List.cons_append, List.nil_append, List.getElem?_toArray, List.getElem?_cons_succ, List.getElem?_cons_zero]
          iterate 2 go_big_quiet_step (fail)
          refine wpQuiet_nil ?_
          clear hq q
          refine seg_op (by simp only [List.getElem?_toArray, List.getElem?_cons_succ, List.getElem?_cons_zero]; rfl) fun K hK => ?_
          go_simp
          refine hK.out _ _ ⟨HK5.out, ?_⟩
          clear hK K
          try go_frame
          intro q hq
          refine wpQuiet_nil ?_
          clear hq q
          have e5 : s + i = (t.l.take s ++ l).length := by rw [List.length_append, List.length_take, HLN.out, Nat.min_eq_left HSL.out]
          go_wp2_with (fail)
          go_ret
          unfold Puts
          rw [HST0.out, HP.out]
          refine ⟨rfl, ?_⟩
          have := Mv.after (HBR.out.trans (HBDD.out.mono HBR.out.size)) HM5.out
          simpa using this
end
end Go.Proofs.Ytlpckhjmbfeegaa
