/- ChainMatch: two chains that take pieces of one sender's are the same as far as each knows. -/
import Derived.Test.YtlpckhjmbfeegaaEa
namespace Go.Proofs.Ytlpckhjmbfeegaa
open Go.RowKit
set_option maxRecDepth 20000
theorem itc_eq (x : It) (w : World) (d : Nat) : (Op.equalIn (d + 2) 47 (.agg x.cells) (.agg x.cells)).run Try.prog w = .ok true w := by
  have ht : Try.prog.underlying 47 = some (.struct (Try.prog.fieldsOf 47)) := by kernel_rfl
  have hp : Try.prog.stoodInHeld 47 = false := by kernel_rfl
  obtain ⟨f0, f1, f2, hf, n0, n1, n2, u0, u1, u2, o0, o1, o2⟩ : ∃ f0 f1 f2 : Field, (Try.prog.fieldsOf 47).toList = [f0, f1, f2] ∧ f0.name ≠ "_" ∧ f1.name ≠ "_" ∧ f2.name ≠ "_" ∧
      Try.prog.underlying f0.type = some (.int .u64) ∧ Try.prog.underlying f1.type = some (.int .i64) ∧ Try.prog.underlying f2.type = some .string ∧ f0.offset = 0 ∧ f1.offset = 1 ∧ f2.offset = 2 := by
    unfold Program.fieldsOf
    rw [Try.underlying47]
    exact ⟨_, _, _, rfl, by simp, by simp, by simp, Try.underlying22, Try.underlying3, Try.underlying9, rfl, rfl, rfl⟩
  rw [run_equalIn_struct w (d + 1) _ _ _ ht hp, hf]
  rw [eqFieldsC (d + 1) _ _ f0 _ n0 _ _ (part_one u0 rfl (by rw [o0]; rfl)) (part_one u0 rfl (by rw [o0]; rfl)) (int_eq w d _ u0),
    eqFieldsC (d + 1) _ _ f1 _ n1 _ _ (part_one u1 rfl (by rw [o1]; rfl)) (part_one u1 rfl (by rw [o1]; rfl)) (int_eq w d _ u1),
    eqFieldsC (d + 1) _ _ f2 _ n2 _ _ (part_one u2 rfl (by rw [o2]; rfl)) (part_one u2 rfl (by rw [o2]; rfl)) (str_eq w d _ u2), eqFields0]
theorem itc_neq (x : It) (w : World) : (binOp .neq 47 (.agg x.cells) (.agg x.cells)).run Try.prog w = .ok (.bool false) w := by
  rw [run_neq_struct, itc_eq x w 9998]
  rfl
theorem itc_guard (w : World) (op : BinOp) (x y : Operand) (a b : Array Value) : (eqGuard op 47 x y (.agg a) (.agg b)).run Try.prog w = .ok () w := run_eqGuard_agg w _ _ _ _ _ _ (by kernel_rfl)
/-- Blocks that may turn while a chain above block N takes pieces. -/
def Fm (N pk pr : Nat) (i : Nat) : Prop := N ≤ i ∨ i = pk ∨ i = pr
theorem ck_off {w : World} {B g p : Nat} {v : Value} {t : Cv} {cs : Array Value} {ty : TypeId} (h : Ck w B g v t) (hp : w.heap[p]? = some (.cells cs ty (0, 0))) (h1 : 78 ≠ ty) (h2 : 47 ≠ ty) : ¬ Foot g v p := by
  rintro (rfl | hf)
  · have := h.row
    rw [hp] at this
    have e := (Obj.cells.inj (Option.some.inj this)).2.1
    exact h1 e.symm
  · exact own_ne_row h.own hp h2 p hf rfl
/-- The law's rows ahead of a round: the sender's chain, what is known, the chains that are done. -/
structure MS (w W : World) (l : List It) (g0 pk pr pl k : Nat) (ns : List Nat) (vs : List Value) (lits : Array Value) : Prop where
  bel : Below w.heap.size w W
  snd : ∃ v, Ck W w.heap.size g0 v (whole l)
  kn : W.heap[pk]? = some (.cells (u64s ns).toArray 51 (0, 0))
  rw_ : W.heap[pr]? = some (.cells vs.toArray 52 (0, 0))
  rl : W.heap[pl]? = some (.cells lits 50 (0, 0))
  nl : ns.length = 2
  vl : vs.length = 2
  lo : w.heap.size ≤ pk ∧ w.heap.size ≤ pr
  done : ∀ j, j < k → ∃ g v kk, vs[j]? = some (.pointer (some ⟨g, 0, none⟩)) ∧ Ck W w.heap.size g v (pre l kk) ∧ ns.getD j 0 ≤ kk ∧ kk ≤ l.length
  rest : ∀ j, k ≤ j → ns.getD j 0 = 0
section
variable {w W W' : World} {l : List It} {g0 pk pr pl k : Nat} {ns : List Nat} {vs : List Value} {lits : Array Value}
theorem MS.pkr (h : MS w W l g0 pk pr pl k ns vs lits) : pk ≠ pr := by
  intro e
  have a := h.kn
  rw [e, h.rw_] at a
  exact absurd (Obj.cells.inj (Option.some.inj a)).2.1 (by decide)
theorem MS.lts (h : MS w W l g0 pk pr pl k ns vs lits) : pk < W.heap.size ∧ pr < W.heap.size ∧ pl < W.heap.size ∧ pl ≠ pk ∧ pl ≠ pr := by
  refine ⟨(Array.getElem?_eq_some_iff.1 h.kn).1, (Array.getElem?_eq_some_iff.1 h.rw_).1, (Array.getElem?_eq_some_iff.1 h.rl).1, fun e => ?_, fun e => ?_⟩
  · have a := h.rl
    rw [e, h.kn] at a
    exact absurd (Obj.cells.inj (Option.some.inj a)).2.1 (by decide)
  · have a := h.rl
    rw [e, h.rw_] at a
    exact absurd (Obj.cells.inj (Option.some.inj a)).2.1 (by decide)
theorem ck_stay {g : Nat} {v : Value} {t : Cv} (h : MS w W l g0 pk pr pl k ns vs lits) (hc : Ck W w.heap.size g v t) (hk : Keeps (Fm W.heap.size pk pr) W W') : Ck W' w.heap.size g v t :=
  hc.keeps hk (fun i hi hf => by
    rcases hf with hf | rfl | rfl
    · have := (hc.foot hi).2; omega
    · exact ck_off hc h.kn (by decide) (by decide) hi
    · exact ck_off hc h.rw_ (by decide) (by decide) hi)
theorem MS.belW (h : MS w W l g0 pk pr pl k ns vs lits) (hk : Keeps (Fm W.heap.size pk pr) W W') : Below w.heap.size w W' :=
  h.bel.trans (hk.below h.bel.size (fun i hi => by have := h.lo; have := h.bel.size; unfold Fm at hi; omega))
end
/-- While a chain takes pieces. -/
structure MI (w W wq : World) (l : List It) (g0 pk pr pl k : Nat) (ns : List Nat) (vs : List Value) (lits : Array Value) (g nn : Nat) : Prop where
  ms : MS w W l g0 pk pr pl k ns vs lits
  kp : Keeps (Fm W.heap.size pk pr) W wq
  ck : ∃ v kk, Ck wq W.heap.size g v (pre l kk) ∧ nn ≤ kk ∧ kk ≤ l.length
  kn : wq.heap[pk]? = some (.cells (u64s (ns.set k nn)).toArray 51 (0, 0))
  rw_ : wq.heap[pr]? = some (.cells vs.toArray 52 (0, 0))
section
variable {w W wq w' : World} {l : List It} {g0 pk pr pl k g nn : Nat} {ns : List Nat} {vs : List Value} {lits : Array Value}
theorem MI.below (h : MI w W wq l g0 pk pr pl k ns vs lits g nn) (hb : Below wq.heap.size wq w') : MI w W w' l g0 pk pr pl k ns vs lits g nn := by
  obtain ⟨v, kk, h1, h2, h3⟩ := h.ck
  exact ⟨h.ms, h.kp.trans (Keeps.of_below (F := Fm W.heap.size pk pr) hb) (fun i hi => .inl hi), ⟨v, kk, h1.below hb, h2, h3⟩, row_below h.kn hb, row_below h.rw_ hb⟩
theorem MI.snd (h : MI w W wq l g0 pk pr pl k ns vs lits g nn) : ∃ v, Ck wq w.heap.size g0 v (whole l) := by
  obtain ⟨v, hv⟩ := h.ms.snd
  exact ⟨v, ck_stay h.ms hv h.kp⟩
theorem MI.take {kk kk' : Nat} {v : Value} (h : MI w W wq l g0 pk pr pl k ns vs lits g nn) (hc : Ck wq W.heap.size g v (pre l kk)) (m : Mv wq W.heap.size g v (pre l kk') w') (hn : nn ≤ kk') (hk : kk' ≤ l.length) : MI w W w' l g0 pk pr pl k ns vs lits g nn := by
  obtain ⟨v', h1, h2, _⟩ := m
  exact ⟨h.ms, h.kp.trans (h2.wide (F' := Fm W.heap.size pk pr) (fun i hi => .inl (hc.foot hi).1)) (fun i hi => .inl hi), ⟨v', kk', h1, hn, hk⟩, h2.row h.kn (ck_off hc h.kn (by decide) (by decide)), h2.row h.rw_ (ck_off hc h.rw_ (by decide) (by decide))⟩
theorem MI.know {mm : Nat} (h : MI w W wq l g0 pk pr pl k ns vs lits g nn) (hk : k < 2) (hm : ∃ v kk, Ck wq W.heap.size g v (pre l kk) ∧ mm ≤ kk ∧ kk ≤ l.length) : MI w W (wq.setCell ⟨pk, k, none⟩ (.int .u64 (mm : Int))) l g0 pk pr pl k ns vs lits g mm := by
  obtain ⟨v, kk, h1, h2, h3⟩ := hm
  have hs := Keeps.set wq pk k (.int .u64 (mm : Int))
  refine ⟨h.ms, h.kp.trans (hs.wide (F' := Fm W.heap.size pk pr) (fun i hi => .inr (.inl hi))) (fun i hi => .inl hi), ⟨v, kk, h1.keeps hs (fun i hi e => ck_off h1 h.kn (by decide) (by decide) (e ▸ hi)), h2, h3⟩, ?_, hs.row h.rw_ (fun e => h.ms.pkr e.symm)⟩
  rw [heap_setCell_same wq pk k _ _ _ h.kn, List.setIfInBounds_toArray]
  unfold u64s
  rw [List.map_set, List.map_set, List.set_set]
theorem MI.next (h : MI w W wq l g0 pk pr pl k ns vs lits g nn) (hk : k < 2) : MS w (wq.setCell ⟨pr, k, none⟩ (.pointer (some ⟨g, 0, none⟩))) l g0 pk pr pl (k + 1) (ns.set k nn) (vs.set k (.pointer (some ⟨g, 0, none⟩))) lits := by
  have hs := Keeps.set wq pr k (.pointer (some ⟨g, 0, none⟩))
  have hk2 := h.kp.trans (hs.wide (F' := Fm W.heap.size pk pr) (fun i hi => .inr (.inr hi))) (fun i hi => .inl hi)
  have hl := h.ms.lts
  obtain ⟨v0, hv0⟩ := h.ms.snd
  refine ⟨h.ms.belW hk2, ⟨v0, ck_stay h.ms hv0 hk2⟩, hs.row h.kn h.ms.pkr, ?_, hk2.row h.ms.rl (by unfold Fm; omega), by rw [List.length_set]; exact h.ms.nl, by rw [List.length_set]; exact h.ms.vl, h.ms.lo, fun j hj => ?_, fun j hj => ?_⟩
  · rw [heap_setCell_same wq pr k _ _ _ h.rw_, List.setIfInBounds_toArray]
  · by_cases e : j = k
    · subst e
      obtain ⟨v, kk, h1, h2, h3⟩ := h.ck
      have h1' := h1.keeps hs (fun i hi e => ck_off h1 h.rw_ (by decide) (by decide) (e ▸ hi))
      refine ⟨g, v, kk, by rw [List.getElem?_set_self (by rw [h.ms.vl]; exact hk)], h1'.low h.ms.bel.size, ?_, h3⟩
      rw [List.getD, List.getElem?_set_self (by rw [h.ms.nl]; exact hk)]
      exact h2
    · obtain ⟨g1, v1, kk1, a1, a2, a3, a4⟩ := h.ms.done j (by omega)
      refine ⟨g1, v1, kk1, by rw [List.getElem?_set_ne (fun e' => e e'.symm)]; exact a1, ck_stay h.ms a2 hk2, ?_, a4⟩
      rw [List.getD, List.getElem?_set_ne (fun e' => e e'.symm)]
      exact a3
  · rw [List.getD, List.getElem?_set_ne (by omega)]
    exact h.ms.rest j (by omega)
end
set_option maxHeartbeats 16000000 in
theorem chainMatch_walk {w : World} {A0 : Option Addr} {n0 c0 : Nat} {l : List It} (hl : Slc It.lay w A0 n0 c0 l) {A1 : Option Addr} {n1 c1 : Nat} {ps : List P2} (ha : Slc P2.lay w A1 n1 c1 ps) {A2 : Option Addr} {n2 c2 : Nat} {qs : List P2} (hb : Slc P2.lay w A2 n2 c2 qs) :
    Calls Try.prog 4 #[.slice A0 n0 c0, .slice A1 n1 c1, .slice A2 n2 c2] w fun e w' => e = .returned (.bool true) ∧ Below w.heap.size w w' := by
  have HLV := Lib.hid lives29
  have HL := Lib.hid hl
  have HA := Lib.hid ha
  have HB := Lib.hid hb
  clear hl ha hb
  by_cases h0 : 50 < n0
  · have d0 : decide ((50 : Int) < (n0 : Int)) = true := by simp; omega
    have d0' : (50 : Int) < (n0 : Int) := by omega
    go_enter Try.func4, Try.ntmps4
    go_wp2_with (first
      | (go_at_call 10; refine (HLV.out _).mono ?_; rintro e w2 ⟨rfl, hb2⟩)
      | fail)
    go_ret
    exact ⟨rfl, hb2⟩
  have d0 : decide ((50 : Int) < (n0 : Int)) = false := by simp; omega
  have d0' : ¬ (50 : Int) < (n0 : Int) := by omega
  by_cases h1 : 50 < n1
  · have d1 : decide ((50 : Int) < (n1 : Int)) = true := by simp; omega
    have d1' : (50 : Int) < (n1 : Int) := by omega
    go_enter Try.func4, Try.ntmps4
    go_wp2_with (first
      | (go_at_call 10; refine (HLV.out _).mono ?_; rintro e w2 ⟨rfl, hb2⟩)
      | fail)
    go_ret
    exact ⟨rfl, hb2⟩
  have d1 : decide ((50 : Int) < (n1 : Int)) = false := by simp; omega
  have d1' : ¬ (50 : Int) < (n1 : Int) := by omega
  by_cases h2 : 50 < n2
  · have d2 : decide ((50 : Int) < (n2 : Int)) = true := by simp; omega
    have d2' : (50 : Int) < (n2 : Int) := by omega
    go_enter Try.func4, Try.ntmps4
    go_wp2_with (first
      | (go_at_call 10; refine (HLV.out _).mono ?_; rintro e w2 ⟨rfl, hb2⟩)
      | fail)
    go_ret
    exact ⟨rfl, hb2⟩
  have d2 : decide ((50 : Int) < (n2 : Int)) = false := by simp; omega
  have d2' : ¬ (50 : Int) < (n2 : Int) := by omega
  have HN := Lib.hid (fun W => cnew_any 0 0 W (by omega))
  rw [show ((0 : Nat) : Int) = 0 from rfl] at HN
  unfold New at HN
  have h50 : n0 ≤ 50 := by omega
  have HN50 := Lib.hid (And.intro h50 (And.intro (show n1 ≤ 50 by omega) (show n2 ≤ 50 by omega)))
  have hst3 := stop_cases ⟨0, 0, []⟩ (Cv.last ⟨0, 0, []⟩) l
  have HUP : Hid (Cv.stop ⟨0, 0, []⟩ (Cv.last ⟨0, 0, []⟩) l = 0 → up 0 l = true) := Lib.hid (by
    intro e
    unfold Cv.stop at e
    split at e
    · cases e
    · split at e
      · assumption
      · cases e)
  have HPT : Hid (Cv.stop ⟨0, 0, []⟩ (Cv.last ⟨0, 0, []⟩) l = 0 → Cv.put ⟨0, 0, []⟩ (Cv.last ⟨0, 0, []⟩) l = whole l) := Lib.hid (by
    intro e
    unfold Cv.put
    rw [if_pos e]
    rfl)
  have HAD : Hid (∀ w1, Ck w1 w.heap.size w.heap.size (.slice none 0 0) ⟨0, 0, []⟩ → Below w.heap.size w w1 → Calls Try.prog 13 #[.pointer (some ⟨w.heap.size, 0, none⟩), .slice A0 n0 c0] w1 (Puts w1 w.heap.size w.heap.size (.slice none 0 0) ⟨0, 0, []⟩ (Cv.last ⟨0, 0, []⟩) l)) := Lib.hid (fun w1 hc hb =>
    add_any hc hb.size (Beside.arg HL.out.rd HL.out.len (by omega) hb hc) (by show 0 + n0 < _; omega))
  unfold Puts at HAD
  generalize Cv.stop ⟨0, 0, []⟩ (Cv.last ⟨0, 0, []⟩) l = st at *
  rcases hst3 with rfl | rfl | rfl
  · rw [HPT.out rfl] at HAD
    have HUPP := Lib.hid (HUP.out rfl)
    clear HPT HUP h0 h1 h2
    go_enter Try.func4, Try.ntmps4
    go_wp2_with (first
      | (go_at_call 11; refine (HN.out _).mono ?_; rintro e w1 ⟨rfl, hc1, hb1⟩
         have HA1 := Lib.hid (HAD.out w1 hc1 hb1)
         have HC1 := Lib.hid hc1
         have HB1 := Lib.hid hb1
         clear hc1 hb1)
      | (go_at_call 13; refine HA1.out.mono ?_; rintro e w2 ⟨rfl, hm2⟩
         have HS2 : Hid (∃ v, Ck w2 w.heap.size w.heap.size v (whole l)) := Lib.hid (by obtain ⟨v, h1, _⟩ := hm2; exact ⟨v, h1⟩)
         have HB2 : Hid (Below w.heap.size w w2) := Lib.hid (by obtain ⟨v, h1, h2, _⟩ := hm2; exact HB1.out.trans (HC1.out.keepsB h2 HB1.out.size))
         clear hm2)
      | fail)
    obtain ⟨W, hW, hz, r0, r1, r2, hbW⟩ := boxes3 w2 #[.int .u64 0, .int .u64 0] #[.pointer none, .pointer none] #[.slice A1 n1 c1, .slice A2 n2 c2] 51 52 50
    obtain ⟨g0, hg0⟩ : ∃ g0, g0 = w.heap.size := ⟨_, rfl⟩
    obtain ⟨pk, hpk⟩ : ∃ pk, pk = w2.heap.size := ⟨_, rfl⟩
    obtain ⟨pr, hpr⟩ : ∃ pr, pr = w2.heap.size + 1 := ⟨_, rfl⟩
    obtain ⟨pl, hpl⟩ : ∃ pl, pl = w2.heap.size + 2 := ⟨_, rfl⟩
    have HMS : Hid (MS w W l g0 pk pr pl 0 [0, 0] [.pointer none, .pointer none] #[.slice A1 n1 c1, .slice A2 n2 c2]) := Lib.hid (by
      obtain ⟨v, hv⟩ := HS2.out
      have hs := HB2.out.size
      rw [hg0, hpk, hpr, hpl]
      refine ⟨HB2.out.trans (hbW.mono hs), ⟨v, hv.below hbW⟩, r0, r1, r2, rfl, rfl, ⟨hs, by omega⟩, fun j hj => absurd hj (Nat.not_lt_zero _), fun j _ => ?_⟩
      match j with
      | 0 => rfl
      | 1 => rfl
      | j + 2 => rfl)
    simp only [Nat.add_assoc, Nat.reduceAdd] at *
    rw [← hg0, ← hpl, ← hpr, ← hpk, ← hW]
    clear hW hz r0 r1 r2 hbW hg0 hpk hpr hpl HA1 HC1 HB1 HAD HS2 HB2
    go_loopw [52] (fun ir wr => ∃ (k : Nat) (ns : List Nat) (vs : List Value), k ≤ 2 ∧ ir = .int .i64 (k : Int) ∧ Hid (MS w wr l g0 pk pr pl k ns vs #[.slice A1 n1 c1, .slice A2 n2 c2])) (fun ir _ => 2 - (intOf ir).toNat)
    case atStart => exact ⟨0, _, _, by omega, rfl, HMS⟩
    case round =>
      clear HMS
      obtain ⟨k, ns, vs, hk, rfl, HM⟩ := hrel
      by_cases hk2 : k < 2
      · have hkI : (k : Int) < 2 := by omega
        obtain ⟨qA, qn, qc, qs', hq, hqn, hrow⟩ : ∃ (qA : Option Addr) (qn qc : Nat) (qs' : List P2), Slc P2.lay w qA qn qc qs' ∧ qn ≤ 50 ∧ (#[Value.slice A1 n1 c1, .slice A2 n2 c2] : Array Value)[k]? = some (.slice qA qn qc) := by
          have hk01 : k = 0 ∨ k = 1 := by omega
          rcases hk01 with rfl | rfl
          · exact ⟨A1, n1, c1, ps, HA.out, HN50.out.2.1, rfl⟩
          · exact ⟨A2, n2, c2, qs, HB.out, HN50.out.2.2, rfl⟩
        have k0 : wr.cell? ⟨pl, k, none⟩ = some (.slice qA qn qc) := (cell_of_row wr pl k _ _ _ HM.out.rl).trans hrow
        have HQ := Lib.hid hq
        have qI : (qn : Int) ≤ 50 := by omega
        have HK2 := Lib.hid hk2
        have d5 : decide ((k : Int) < 2) = true := by simpa using hkI
        clear hq hrow hk2
        go_wp2_with (first
          | (go_at_call 11; refine (HN.out _).mono ?_; rintro e w1 ⟨rfl, hc1, hb1⟩
             have HI1 : Hid (MI w wr w1 l g0 pk pr pl k ns vs #[.slice A1 n1 c1, .slice A2 n2 c2] wr.heap.size 0) := Lib.hid (by
               refine ⟨HM.out, Keeps.of_below hb1, ⟨_, 0, hc1, Nat.zero_le _, Nat.zero_le _⟩, ?_, row_below HM.out.rw_ hb1⟩
               have hr := HM.out.rest k (Nat.le_refl _)
               have hl : k < ns.length := by rw [HM.out.nl]; exact HK2.out
               rw [show ns.set k 0 = ns from by
                 apply List.ext_getElem?
                 intro j
                 by_cases e : k = j
                 · subst e
                   rw [List.getElem?_set_self hl, List.getElem?_eq_getElem hl]
                   rw [List.getD, List.getElem?_eq_getElem hl] at hr
                   simp only [Option.getD_some] at hr
                   rw [hr]
                 · rw [List.getElem?_set_ne e]]
               exact row_below HM.out.kn hb1)
             clear hc1 hb1)
          | fail)
        obtain ⟨g, hg⟩ : ∃ g, g = wr.heap.size := ⟨_, rfl⟩
        rw [← hg] at HI1 ⊢
        clear hg
        go_loopw [60] (fun jr wy => ∃ (j nn : Nat) (wq : World), wq = wy ∧ j ≤ qn ∧ jr = .int .i64 (j : Int) ∧ Hid (MI w wr wq l g0 pk pr pl k ns vs #[.slice A1 n1 c1, .slice A2 n2 c2] g nn)) (fun jr _ => qn - (intOf jr).toNat)
        case atStart => exact ⟨0, 0, _, rfl, Nat.zero_le _, rfl, HI1⟩
        case round =>
          clear HI1
          obtain ⟨j, nn, wq, rfl, hj, rfl, HI⟩ := hrel
          by_cases hjq : j < qn
          · obtain ⟨o, ho⟩ : ∃ o, qs'[j]? = some o := ⟨_, List.getElem?_eq_getElem (by have := HQ.out.len; omega)⟩
            obtain ⟨bq, oq, rfl, hbb, hcc⟩ := HQ.out.at_ (by omega)
            have hbq := HM.out.belW HI.out.kp
            have hce := fun i u (hu : (P2.lay.cells o)[i]? = some u) => (hbq.cell (p := ⟨bq, oq + (j * 2 + i), none⟩) hbb).trans (hcc j o ho i u hu)
            have e0 : wq.cell? ⟨bq, oq + j * 2, none⟩ = some (.int .u8 (o.a : Int)) := hce 0 _ rfl
            have e1 : wq.cell? ⟨bq, oq + j * 2 + 1, none⟩ = some (.int .u8 (o.b : Int)) := by rw [Nat.add_assoc]; exact hce 1 _ rfl
            have hab := HQ.out.reads o (List.mem_of_getElem? ho)
            have hjI : (j : Int) < (qn : Int) := by omega
            have HJQ := Lib.hid hjI
            obtain ⟨a, b⟩ := o
            dsimp only at *
            have ha := hab.1
            have hb := hab.2
            clear hcc hce ho hab hbq hjq
            obtain ⟨Wb, hWb⟩ : ∃ Wb, Wb = wq.alloc (.cells #[.int .u8 (a : Int), .int .u8 (b : Int)] 54) := ⟨_, rfl⟩
            have hrb := heap_alloc_new wq (.cells #[.int .u8 (a : Int), .int .u8 (b : Int)] 54)
            have hbb2 := (Below.refl wq.heap.size wq).alloc (Nat.le_refl _) (.cells #[.int .u8 (a : Int), .int .u8 (b : Int)] 54)
            rw [← hWb] at hrb hbb2
            obtain ⟨p, hp⟩ : ∃ p, p = wq.heap.size := ⟨_, rfl⟩
            have HIb := Lib.hid (HI.out.below hbb2)
            rw [← hp] at hrb
            have HRB := Lib.hid hrb
            have x0 := cell_of_row Wb p 0 _ _ _ hrb
            have x1 := cell_of_row Wb p 1 _ _ _ hrb
            clear hbb2 hrb HI
            go_wp2_with (fail)
            rw [← hWb, ← hp]
            clear hWb hp e0 e1
            obtain ⟨v0, hv0⟩ := HIb.out.snd
            have hq1 := fun z => (last_any (hv0.below (drewN_below Wb z))).mono (fun e w' h => (⟨h.1, h.2.symm⟩ : e = _ ∧ w' = Wb.drewN z))
            have hln : (whole l).last = n0 := by show 0 + l.length = n0; rw [HL.out.len]; omega
            rw [hln] at hq1
            have n0I : (n0 : Int) ≤ 50 := by have := HN50.out.1; omega
            have aI : (a : Int) < 256 := by omega
            obtain ⟨prev, hprev⟩ : ∃ prev, prev = a % (n0 + 1) := ⟨_, rfl⟩
            have hpI : ((a : Int) % ((n0 : Int) + 1)) = (prev : Int) := by rw [hprev, Int.natCast_emod]; rfl
            go_quiet ((go_at_call 21; exact Calls.quiet_of_same (hq1 _)))
            rename_i nq
            rw [hpI]
            have hple : prev ≤ n0 := by have := Nat.mod_lt a (show 0 < n0 + 1 by omega); omega
            obtain ⟨Wc, hWc⟩ : ∃ Wc, Wc = Wb.drewN nq := ⟨_, rfl⟩
            have hIc := HIb.out.below (drewN_below Wb nq)
            have hrc := row_below HRB.out (drewN_below Wb nq)
            rw [← hWc] at hIc hrc ⊢
            have HIc := Lib.hid hIc
            have HRC := Lib.hid hrc
            have HPL := Lib.hid hple
            have pI : (prev : Int) ≤ 50 := by omega
            obtain ⟨vc, hvc⟩ := hIc.snd
            have hlen0 := HL.out.len
            have htm := whole_tm (l := l) (i := prev) (by omega)
            have hTm := term_any hvc prev
            unfold Termed at hTm
            rw [htm] at hTm
            simp only [Option.getD_some, Option.isSome_some] at hTm
            obtain ⟨tv, htv⟩ : ∃ tv, tv = (whole l).term prev := ⟨_, rfl⟩
            rw [← htv] at hTm
            have HTM := Lib.hid hTm
            have HTV := Lib.hid htv
            have HFR : Hid (∀ W', Below Wc.heap.size Wc W' → Calls Try.prog 24 #[.pointer (some ⟨g0, 0, none⟩), .int .u64 ((prev : Int) + 1)] W' (Rowed W' 47 (l.drop prev))) := Lib.hid (fun W' hb => by
              have := from_any (hvc.below hb) (prev + 1) (by omega)
              rw [show ((prev + 1 : Nat) : Int) = (prev : Int) + 1 by omega, show (whole l).from_ (prev + 1) = l.drop prev from by unfold Cv.from_; show l.drop (prev + 1 - 0 - 1) = _; rw [show prev + 1 - 0 - 1 = prev by omega]] at this
              exact this)
            unfold Rowed at HFR
            obtain ⟨dl, hdl⟩ : ∃ dl, dl = (l.drop prev).length := ⟨_, rfl⟩
            have hdl2 : dl = n0 - prev := by rw [hdl, List.length_drop, hlen0]
            rw [← hdl] at HFR
            have HDL := Lib.hid hdl
            have HDL2 := Lib.hid hdl2
            obtain ⟨m, hm⟩ : ∃ m, m = min b dl := ⟨_, rfl⟩
            have HMM := Lib.hid hm
            have mI : min (b : Int) (dl : Int) = (m : Int) := by omega
            have dlI : (dl : Int) ≤ 50 := by omega
            have bI : (b : Int) < 256 := by omega
            have hml : m ≤ dl := by omega
            have mI2 : (m : Int) ≤ (dl : Int) := by omega
            clear hIc hrc hple hvc hlen0 htm hTm htv hdl hdl2 hm hWc hprev hpI hq1 hv0 hln
            go_wp2_with (first
              | (go_at_call 23; refine HTM.out.mono ?_; rintro e w4 ⟨rfl, hb4⟩; have HB4 := Lib.hid hb4; clear hb4)
              | (go_at_call 24; refine (HFR.out _ HB4.out).mono ?_; rintro e w5 ⟨A5, c5, rfl, ho5, hb5⟩
                 have HO5 := Lib.hid ho5
                 have HB5 := Lib.hid (HB4.out.trans (hb5.mono HB4.out.size))
                 have HZ4 := Lib.hid HB4.out.size
                 have hr5 := row_below HRC.out HB5.out
                 have x1 := cell_of_row w5 p 1 _ _ _ hr5
                 have hmc : m ≤ c5 := Nat.le_trans hml (ownsRow_rd ho5).1
                 clear ho5 hr5 hb5)
              | fail)
            have hI5 := HIc.out.below HB5.out
            obtain ⟨v, kk, hck, hnk, hkl⟩ := HIc.out.ck
            have hrd5 := (ownsRow_rd HO5.out).take3 (by rw [HDL.out]) hml
            have hbs : Beside w5 g v A5 m c5 ((l.drop prev).take m) := by
              refine ⟨hrd5, ?_, by omega, fun hn b' o' hA' hf => ?_⟩
              · rw [List.length_take, ← HDL.out]; omega
              · have h1 := (hck.foot hf).2
                have h2 := (HO5.out.lt b' (by rw [hA']; rfl)).1
                have h3 := HZ4.out
                omega
            have hTK := take_any (hck.below HB5.out) (Nat.le_trans HIc.out.kp.size HB5.out.size) prev tv hbs (by rw [pre_last hkl]; have := HL.out.len; have := HN50.out.1; omega)
            unfold Takes at hTK
            have hpt := pre_take (l := l) (k := kk) (prev := prev) (m := m) HUPP.out (by rw [HL.out.len]; exact HN50.out.1) hkl (by have := HL.out.len; have := HDL2.out; have := HPL.out; omega)
            rw [← HTV.out] at hpt
            have HI5 := Lib.hid hI5
            have HCK := Lib.hid (hck.below HB5.out)
            have HNK := Lib.hid hnk
            have HKL := Lib.hid hkl
            clear hI5 hck hnk hkl hrd5 hbs x0 x1
            by_cases hpk2 : prev ≤ kk
            · obtain ⟨h1, h2, h3⟩ := hpt.1 hpk2
              rw [h1, h2, h3] at hTK
              obtain ⟨T, hT⟩ : ∃ T, T = prev + m := ⟨_, rfl⟩
              simp only [if_true] at hTK
              rw [← hT] at hTK
              have HTK := Lib.hid hTK
              have HT := Lib.hid hT
              obtain ⟨X, hX⟩ : ∃ X, X = max nn T := ⟨_, rfl⟩
              have mX : max (nn : Int) (T : Int) = (X : Int) := by omega
              have HX := Lib.hid hX
              have HTL : Hid (T ≤ l.length) := Lib.hid (by have := HL.out.len; have := HDL2.out; have := HPL.out; omega)
              clear hTK hT hX hpt h1 h2 h3
              refine HTK.out.mono ?_
              rintro e w6 ⟨rfl, hm6⟩
              have hI6 := HI5.out.take HCK.out hm6 (Nat.le_trans HNK.out (Nat.le_max_left _ _)) (by have := HTL.out; have := HKL.out; omega)
              have HI6 := Lib.hid hI6
              have HC6 : Hid (∃ v kk, Ck w6 wr.heap.size g v (pre l kk) ∧ X ≤ kk ∧ kk ≤ l.length) := Lib.hid (by
                obtain ⟨v', a1, _, _⟩ := hm6
                exact ⟨v', _, a1, by have := HX.out; have := HNK.out; omega, by have := HTL.out; have := HKL.out; omega⟩)
              have y0 : w6.cell? ⟨pk, k, none⟩ = some (.int .u64 (nn : Int)) := by
                rw [cell_of_row w6 pk k _ _ _ hI6.kn, List.getElem?_toArray]
                unfold u64s
                rw [List.getElem?_map, List.getElem?_set_self (by rw [HM.out.nl]; exact HK2.out)]
                rfl
              have z0 : w6.frozen? ⟨pk, k, none⟩ = false := frozen_of_row w6 pk k _ _ hI6.kn
              clear hI6 hm6
              go_wp2_with (fail)
              have hjq := HJQ.out
              exact ⟨⟨j + 1, X, _, rfl, by omega, by go_num, Lib.hid (HI6.out.know HK2.out HC6.out)⟩, by simp [intOf]; omega⟩
            · obtain ⟨h1, h2⟩ := hpt.2 (by omega)
              rw [h1, h2] at hTK
              simp only [Bool.false_eq_true, if_false] at hTK
              have HTK := Lib.hid hTK
              clear hTK hpt h1 h2
              refine HTK.out.mono ?_
              rintro e w6 ⟨rfl, hm6⟩
              have HI6 := Lib.hid (HI5.out.take HCK.out hm6 HNK.out HKL.out)
              clear hm6
              go_wp2_with (fail)
              have hjq := HJQ.out
              exact ⟨⟨j + 1, nn, _, rfl, by omega, by go_num, HI6⟩, by simp [intOf]; omega⟩
          · obtain rfl : j = qn := by omega
            have d6 : decide ((j : Int) < (j : Int)) = false := by simp
            have y0 : wq.cell? ⟨pr, k, none⟩ = some (vs.getD k undef) := by
              rw [cell_of_row wq pr k _ _ _ HI.out.rw_, List.getElem?_toArray, List.getD, List.getElem?_eq_getElem (by rw [HM.out.vl]; exact HK2.out)]
              rfl
            have z0 : wq.frozen? ⟨pr, k, none⟩ = false := frozen_of_row wq pr k _ _ HI.out.rw_
            clear hjq
            go_wp2_with (fail)
            have hk2 := HK2.out
            exact ⟨⟨k + 1, _, _, by omega, by go_num, Lib.hid (HI.out.next HK2.out)⟩, by simp [intOf]; omega⟩
      · obtain rfl : k = 2 := by omega
        have d5 : decide ((2 : Int) < 2) = false := by simp
        clear hk2
        obtain ⟨n0', n1', rfl⟩ : ∃ a b, ns = [a, b] := by
          have := HM.out.nl
          match ns, this with
          | [a, b], _ => exact ⟨a, b, rfl⟩
        obtain ⟨ga, va, ka, a1, a2, a3, a4⟩ := HM.out.done 0 (by omega)
        obtain ⟨gb, vb, kb, b1, b2, b3, b4⟩ := HM.out.done 1 (by omega)
        obtain ⟨vw, hvw⟩ := HM.out.snd
        have r0 : wr.cell? ⟨pr, 0, none⟩ = some (.pointer (some ⟨ga, 0, none⟩)) := by rw [cell_of_row wr pr 0 _ _ _ HM.out.rw_, List.getElem?_toArray]; exact a1
        have r1 : wr.cell? ⟨pr, 1, none⟩ = some (.pointer (some ⟨gb, 0, none⟩)) := by rw [cell_of_row wr pr 1 _ _ _ HM.out.rw_, List.getElem?_toArray]; exact b1
        have s0 : wr.cell? ⟨pk, 0, none⟩ = some (.int .u64 (n0' : Int)) := by rw [cell_of_row wr pk 0 _ _ _ HM.out.kn]; rfl
        have s1 : wr.cell? ⟨pk, 1, none⟩ = some (.int .u64 (n1' : Int)) := by rw [cell_of_row wr pk 1 _ _ _ HM.out.kn]; rfl
        have ha3 : n0' ≤ ka := a3
        have hb3 : n1' ≤ kb := b3
        have HLT := Lib.hid HM.out.lts
        have HGA := Lib.hid (fun W' (hb : Below wr.heap.size wr W') i => get_any (a2.below hb) i)
        have HGB := Lib.hid (fun W' (hb : Below wr.heap.size wr W') i => get_any (b2.below hb) i)
        have HGW := Lib.hid (fun W' (hb : Below wr.heap.size wr W') i => get_any (hvw.below hb) i)
        obtain ⟨M, hM⟩ : ∃ M, M = min n0' n1' := ⟨_, rfl⟩
        have mM : min (n0' : Int) (n1' : Int) = (M : Int) := by omega
        have HPA := Lib.hid (fun i (h1 : 1 ≤ i) (h2 : i ≤ M) => pre_get (l := l) h1 (show i ≤ ka by omega) a4)
        have HPB := Lib.hid (fun i (h1 : 1 ≤ i) (h2 : i ≤ M) => pre_get (l := l) h1 (show i ≤ kb by omega) b4)
        have hM50 : (M : Int) ≤ 50 := by have := HL.out.len; have := HN50.out.1; omega
        clear a1 a2 a3 a4 b1 b2 b3 b4 hvw ha3 hb3 hM
        go_wp2_with (fail)
        go_loopw [21] (fun ir wy => ∃ (i : Nat) (wq : World), wq = wy ∧ 1 ≤ i ∧ i ≤ M + 1 ∧ ir = .int .u64 (i : Int) ∧ Hid (Below wr.heap.size wr wq)) (fun ir _ => M + 1 - (intOf ir).toNat)
        case atStart => exact ⟨1, _, rfl, Nat.le_refl _, by omega, rfl, Lib.hid (Below.refl _ _)⟩
        case round =>
          obtain ⟨i, wq, rfl, hi1, hi2, rfl, HBq⟩ := hrel
          have q0 : wq.cell? ⟨pr, 0, none⟩ = some (.pointer (some ⟨ga, 0, none⟩)) := (HBq.out.cell (p := ⟨pr, 0, none⟩) HLT.out.2.1).trans r0
          have q1 : wq.cell? ⟨pr, 1, none⟩ = some (.pointer (some ⟨gb, 0, none⟩)) := (HBq.out.cell (p := ⟨pr, 1, none⟩) HLT.out.2.1).trans r1
          have t0 : wq.cell? ⟨pk, 0, none⟩ = some (.int .u64 (n0' : Int)) := (HBq.out.cell (p := ⟨pk, 0, none⟩) HLT.out.1).trans s0
          have t1 : wq.cell? ⟨pk, 1, none⟩ = some (.int .u64 (n1' : Int)) := (HBq.out.cell (p := ⟨pk, 1, none⟩) HLT.out.1).trans s1
          by_cases hiM : i ≤ M
          · have d6 : decide ((i : Int) ≤ (M : Int)) = true := by simp; omega
            have iI : (i : Int) ≤ (M : Int) := by omega
            have hpa := HPA.out i hi1 hiM
            have hpb := HPB.out i hi1 hiM
            have hg1 := HGA.out wq HBq.out i
            unfold Got at hg1
            rw [hpa.1] at hg1
            have HG2 := Lib.hid (fun W' (hb : Below wr.heap.size wr W') => by
              have := HGB.out W' hb i
              unfold Got at this
              rw [hpb.1] at this
              exact this)
            have HG3 := Lib.hid (fun W' (hb : Below wr.heap.size wr W') => by
              have := HGW.out W' hb i
              unfold Got at this
              exact this)
            have his := hpa.2
            rw [his] at hg1 HG2 HG3
            generalize ((whole l).at_ i).getD itNil = x at *
            have HNE := Lib.hid (fun W => itc_neq x W)
            have HGU := Lib.hid (fun W op a b => itc_guard W op a b x.cells x.cells)
            have HG1 := Lib.hid hg1
            have HIM := Lib.hid hiM
            clear hpa hpb hg1 his hiM
            obtain ⟨xt, xk, xx⟩ := x
            unfold It.cells at *
            dsimp only at *
            go_wp2_with (fail)
            refine HG1.out.mono ?_
            rintro e u1 ⟨rfl, hb1⟩
            have HB1 := Lib.hid (HBq.out.trans (hb1.mono HBq.out.size))
            have ha1 : Below wr.heap.size wr (u1.alloc (.cells #[.int .u64 (xt : Int), .int .i64 xk, .string (str xx)] 47)) := HB1.out.alloc HB1.out.size _
            obtain ⟨U1, hU1⟩ : ∃ U1, U1 = u1.alloc (.cells #[.int .u64 (xt : Int), .int .i64 xk, .string (str xx)] 47) := ⟨_, rfl⟩
            have hr1 := heap_alloc_new u1 (.cells #[.int .u64 (xt : Int), .int .i64 xk, .string (str xx)] 47)
            rw [← hU1] at ha1 hr1
            have q1 : U1.cell? ⟨pr, 1, none⟩ = some (.pointer (some ⟨gb, 0, none⟩)) := (ha1.cell (p := ⟨pr, 1, none⟩) HLT.out.2.1).trans r1
            clear q0 HBq hb1 HB1 t0 t1
            go_upto_region 28 with (fail)
            rw [← hU1]
            obtain ⟨p1, hp1⟩ : ∃ p1, p1 = u1.heap.size := ⟨_, rfl⟩
            rw [← hp1] at hr1 ⊢
            clear hU1 hp1
            go_wp2_with (fail)
            refine (HG2.out U1 ha1).mono ?_
            rintro e u2 ⟨rfl, hb2⟩
            have HB2 := Lib.hid (ha1.trans (hb2.mono ha1.size))
            have hr1 := row_below hr1 hb2
            have ha2 : Below u2.heap.size u2 (u2.alloc (.cells #[.int .u64 (xt : Int), .int .i64 xk, .string (str xx)] 47)) := (Below.refl _ _).alloc (Nat.le_refl _) _
            obtain ⟨U2, hU2⟩ : ∃ U2, U2 = u2.alloc (.cells #[.int .u64 (xt : Int), .int .i64 xk, .string (str xx)] 47) := ⟨_, rfl⟩
            have hr2 := heap_alloc_new u2 (.cells #[.int .u64 (xt : Int), .int .i64 xk, .string (str xx)] 47)
            rw [← hU2] at ha2 hr2
            have hr1 := row_below hr1 ha2
            have HB2 := Lib.hid (HB2.out.trans (ha2.mono HB2.out.size))
            go_upto_region 29 with (fail)
            rw [← hU2]
            obtain ⟨p2, hp2⟩ : ∃ p2, p2 = u2.heap.size := ⟨_, rfl⟩
            rw [← hp2] at hr2 ⊢
            clear hU2 hp2 ha2 ha1 hb2 q1
            go_wp2_with (fail)
            refine (HG3.out U2 HB2.out).mono ?_
            rintro e u3 ⟨rfl, hb3⟩
            have hr1 := row_below hr1 hb3
            have hr2 := row_below hr2 hb3
            have ha3 : Below u3.heap.size u3 (u3.alloc (.cells #[.int .u64 (xt : Int), .int .i64 xk, .string (str xx)] 47)) := (Below.refl _ _).alloc (Nat.le_refl _) _
            obtain ⟨U3, hU3⟩ : ∃ U3, U3 = u3.alloc (.cells #[.int .u64 (xt : Int), .int .i64 xk, .string (str xx)] 47) := ⟨_, rfl⟩
            have hr3 := heap_alloc_new u3 (.cells #[.int .u64 (xt : Int), .int .i64 xk, .string (str xx)] 47)
            rw [← hU3] at ha3 hr3
            have hr1 := row_below hr1 ha3
            have hr2 := row_below hr2 ha3
            have HB3 := Lib.hid ((HB2.out.trans (hb3.mono HB2.out.size)).trans (ha3.mono (Nat.le_trans HB2.out.size hb3.size)))
            go_upto_region 30 with (fail)
            rw [← hU3]
            obtain ⟨p3, hp3⟩ : ∃ p3, p3 = u3.heap.size := ⟨_, rfl⟩
            rw [← hp3] at hr3 ⊢
            have c10 : U3.cell? ⟨p1, 0, none⟩ = some (.int .u64 (xt : Int)) := cell_of_row U3 _ 0 _ _ _ hr1
            have c11 : U3.cell? ⟨p1, 1, none⟩ = some (.int .i64 xk) := cell_of_row U3 _ 1 _ _ _ hr1
            have c12 : U3.cell? ⟨p1, 2, none⟩ = some (.string (str xx)) := cell_of_row U3 _ 2 _ _ _ hr1
            have c20 : U3.cell? ⟨p2, 0, none⟩ = some (.int .u64 (xt : Int)) := cell_of_row U3 _ 0 _ _ _ hr2
            have c21 : U3.cell? ⟨p2, 1, none⟩ = some (.int .i64 xk) := cell_of_row U3 _ 1 _ _ _ hr2
            have c22 : U3.cell? ⟨p2, 2, none⟩ = some (.string (str xx)) := cell_of_row U3 _ 2 _ _ _ hr2
            have c30 : U3.cell? ⟨p3, 0, none⟩ = some (.int .u64 (xt : Int)) := cell_of_row U3 _ 0 _ _ _ hr3
            have c31 : U3.cell? ⟨p3, 1, none⟩ = some (.int .i64 xk) := cell_of_row U3 _ 1 _ _ _ hr3
            have c32 : U3.cell? ⟨p3, 2, none⟩ = some (.string (str xx)) := cell_of_row U3 _ 2 _ _ _ hr3
            have hne := HNE.out
            have hgu := HGU.out
            clear hU3 hp3 ha3 hb3 hr1 hr2 hr3
            go_wp2_with (fail)
            have him := HIM.out
            refine ⟨?_, ?_⟩
            · (repeat apply Exists.intro)
              refine ⟨?_, rfl⟩
              exact ⟨i + 1, _, rfl, by omega, by omega, by go_num, HB3⟩
            · show M + 1 - (intOf (.int .u64 ((i : Int) + 1))).toNat < M + 1 - (intOf (.int .u64 (i : Int))).toNat
              simp [intOf]; omega
          · have d6 : decide ((i : Int) ≤ (M : Int)) = false := by simp; omega
            have iI : ¬ (i : Int) ≤ (M : Int) := by omega
            clear hiM
            go_wp2_with (first
              | (go_at_call 10; refine (HLV.out _).mono ?_; rintro e w3 ⟨rfl, hb3⟩)
              | fail)
            go_ret
            have hbz := HM.out.bel.trans (HBq.out.mono HM.out.bel.size)
            exact ⟨rfl, hbz.trans (hb3.mono hbz.size)⟩
  · clear HPT HUP
    go_enter Try.func4, Try.ntmps4
    go_wp2_with (first
      | (go_at_call 11; refine (HN.out _).mono ?_; rintro e w1 ⟨rfl, hc1, hb1⟩
         have HA1 := Lib.hid (HAD.out w1 hc1 hb1)
         have HC1 := Lib.hid hc1
         have HB1 := Lib.hid hb1
         clear hc1 hb1)
      | (go_at_call 13; refine HA1.out.mono ?_; rintro e w2 ⟨rfl, hm2⟩
         have HB2 : Hid (Below w.heap.size w w2) := Lib.hid (by obtain ⟨v, h1, h2, _⟩ := hm2; exact HB1.out.trans (HC1.out.keepsB h2 HB1.out.size))
         clear hm2)
      | (go_at_call 10; refine (HLV.out _).mono ?_; rintro e w3 ⟨rfl, hb3⟩)
      | fail)
    go_ret
    exact ⟨rfl, HB2.out.trans (hb3.mono HB2.out.size)⟩
  · clear HPT HUP
    go_enter Try.func4, Try.ntmps4
    go_wp2_with (first
      | (go_at_call 11; refine (HN.out _).mono ?_; rintro e w1 ⟨rfl, hc1, hb1⟩
         have HA1 := Lib.hid (HAD.out w1 hc1 hb1)
         have HC1 := Lib.hid hc1
         have HB1 := Lib.hid hb1
         clear hc1 hb1)
      | (go_at_call 13; refine HA1.out.mono ?_; rintro e w2 ⟨rfl, hm2⟩
         have HB2 : Hid (Below w.heap.size w w2) := Lib.hid (by obtain ⟨v, h1, h2, _⟩ := hm2; exact HB1.out.trans (HC1.out.keepsB h2 HB1.out.size))
         clear hm2)
      | (go_at_call 10; refine (HLV.out _).mono ?_; rintro e w3 ⟨rfl, hb3⟩)
      | fail)
    go_ret
    exact ⟨rfl, HB2.out.trans (hb3.mono HB2.out.size)⟩
namespace chainMatch
open Go.ChangeShapes Go.WideShapes Go.ChangeAt
set_option maxRecDepth 100000 in
theorem lifted (os : Os) (started : os.Started) (H : Type) (enc : TypeId × Value → H) :
    ReturnsInHanded {} Try.checked os 4 .any (Rows.chainMatchSpec.pre6 enc Try.prog Try.f4 Rows.chainMatchRow.domain false) (Rows.chainMatchSpec.post enc Try.prog Try.f4 false true false false) := by
  refine returnsInHanded_of_change (C := Try.checked) own started (by kernel_rfl) Try.func4
    (ChangeSpec.witness6 (enc := enc) (C := Try.checked) false ⟨#[], #[.slice none 0 0, .slice none 0 0, .slice none 0 0], []⟩ 8 (by kernel_rfl) (by kernel_rfl) (by kernel_rfl) (by kernel_rfl)) ?_
  intro W base args ds gs before hval0 hW _ _
  have hval : ∀ (j : Nat) t v, Try.f4.params[j]? = some t → args[j]? = some v → Value.okWide Try.prog W .any base t v := hval0
  have hW' := hW
  obtain ⟨p, q, hA0, hV, rfl, hfz, hnd⟩ := hW
  have hA : DataW.TrodAll enc Try.prog W 0 (fun _ => true) true Try.f4.params.toList args.toList ds p := hA0
  rw [Try.params4] at hA hval
  obtain ⟨v0, vs0, d0, ds0, p0, q0, hargs, rfl, rfl, h0, r0⟩ := trodAll_cons hA
  obtain ⟨v1, vs1, d1, ds1, p1, q1, rfl, rfl, rfl, h1, r1⟩ := trodAll_cons r0
  obtain ⟨v2, vs2, d2, ds2, p2, q2, rfl, rfl, rfl, h2, r2⟩ := trodAll_cons r1
  obtain ⟨rfl, rfl, rfl⟩ := trodAll_nil r2
  obtain rfl : args = #[v0, v1, v2] := by cases args; simp_all
  obtain ⟨rfl, rfl⟩ := trodVars_none hV
  have k0 := h0
  have lt0 : ∀ x ∈ p0, x.block < W.heap.size := by obtain ⟨m, hm⟩ := k0; exact DataW.trod_lt m _ _ _ hm
  obtain ⟨a0, n0, c0, l0, rfl, w0⟩ := It.dec (hval 0 31 v0 rfl rfl) h0
  have k1 := h1
  have lt1 : ∀ x ∈ p1, x.block < W.heap.size := by obtain ⟨m, hm⟩ := k1; exact DataW.trod_lt m _ _ _ hm
  obtain ⟨a1, n1, c1, l1, rfl, w1⟩ := P2.dec (hval 1 50 v1 rfl rfl) h1
  have k2 := h2
  have lt2 : ∀ x ∈ p2, x.block < W.heap.size := by obtain ⟨m, hm⟩ := k2; exact DataW.trod_lt m _ _ _ hm
  obtain ⟨a2, n2, c2, l2, rfl, w2⟩ := P2.dec (hval 2 50 v2 rfl rfl) h2
  clear hA0 hval0
  refine (chainMatch_walk w0 w1 w2).mono fun e W' ⟨he, bel⟩ => ?_
  subst he
  exact ⟨_, rfl, _, _, _, [], _, [], hW', trodAll_mk1 (shut_bool Try.underlying4 _), (trodAll_cons_mk (Below.trod laidOut (by kernel_rfl) (of_decide_eq_true (by kernel_rfl)) k0 bel lt0) (trodAll_cons_mk (Below.trod laidOut (by kernel_rfl) (of_decide_eq_true (by kernel_rfl)) k1 bel lt1) (trodAll_cons_mk (Below.trod laidOut (by kernel_rfl) (of_decide_eq_true (by kernel_rfl)) k2 bel lt2) trodAll_mk0))), rfl, bel.frame _, fun h => by cases h⟩

theorem over : Rows.chainMatchRow.holds Try.pinned (OpenSpec.ofChange Rows.chainMatchSpec) :=
  OpenClaim.holds_of_wide 4 Try.f4 rfl rfl rfl rfl rfl rfl rfl ⟨rfl, rfl, rfl, rfl, rfl⟩ rfl rfl rfl rfl rfl (by kernel_rfl) Try.func4 (by kernel_rfl)
    (of_decide_eq_true (by kernel_rfl)) (by unfold Func.isWrapper; first | (rw [if_pos (by decide +kernel)]; kernel_rfl) | (rw [if_neg (by decide +kernel)]; exact ⟨rfl, rfl⟩))
    (fun os started H enc _ => lifted os started H enc)
/-- The given statement. -/
theorem proved : Rows.ChainMatchSaid := over
end chainMatch

end Go.Proofs.Ytlpckhjmbfeegaa
