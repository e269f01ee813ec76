/- The law's own: all that is in a bag, as a slice; the same numbers. -/
import Derived.Test.YtdddknncndjbcaaBagc
namespace Go.Proofs.Ytdddknncndjbcaa
open Go.RowKit
attribute [local go_sem] Oper.semAt_some

theorem ints_any {w : World} {A A2 : Option Addr} {n c c2 : Nat} {l : List Int} (h1 : Rd w w.heap.size 1 A n c (is l)) (h2 : Rd w w.heap.size 1 A2 n c2 (is l)) (hn : n ≤ 110000) :
    Calls Try.prog 13 #[.slice A n c, .slice A2 n c2] w fun e w' => e = .returned (.bool true) ∧ Below w.heap.size w w' := by
  have hl : l.length = n := by have := h1.len; rwa [is_len] at this
  have H1 := Lib.hid (fun i (hi : i < n) => h1.at_ hi)
  have H2 := Lib.hid (fun i (hi : i < n) => h2.at_ hi)
  clear h1 h2 hl
  go_enter Try.func13, Try.ntmps13
  go_wp2_with (fail)
  go_loopw [13] (fun ir wr => ∃ i : Nat, i ≤ n ∧ ir = .int .i64 (i : Int) ∧ Hid (Below w.heap.size w wr)) (fun ir _ => n - (intOf ir).toNat)
  case atStart => exact ⟨0, Nat.zero_le _, rfl, Lib.hid (Below.refl _ _)⟩
  case round =>
    obtain ⟨i, hi, rfl, RB⟩ := hrel
    by_cases hlt : i < n
    · obtain ⟨p1, o1, v1, rfl, hp1, hv1, hc1⟩ := H1.out i hlt
      obtain ⟨p2, o2, v2, rfl, hp2, hv2, hc2⟩ := H2.out i hlt
      obtain rfl : v1 = v2 := Option.some.inj (hv1.symm.trans hv2)
      obtain ⟨x, _, rfl⟩ : ∃ x, l[i]? = some x ∧ v1 = .int .i64 x := by
        unfold is at hv1
        rw [List.getElem?_map] at hv1
        cases hx : l[i]? with
        | none => rw [hx] at hv1; cases hv1
        | some x => rw [hx] at hv1; exact ⟨x, rfl, (Option.some.inj hv1).symm⟩
      have d1 := (RB.out.cell (p := ⟨p1, o1 + i, none⟩) hp1).trans hc1
      have d2 := (RB.out.cell (p := ⟨p2, o2 + i, none⟩) hp2).trans hc2
      clear hv1 hv2 hc1 hc2 hp1 hp2
      go_wp2_with (fail)
      go_quiet (fail)
      go_wp2
      go_roundw
      case rel => exact ⟨i + 1, by omega, by go_num, Lib.hid ⟨RB.out.os, RB.out.tape, RB.out.output, RB.out.size, RB.out.block⟩⟩
      case measure => simp [intOf]; omega
    · obtain rfl : i = n := by omega
      go_wp2
      go_ret
      exact ⟨rfl, RB.out⟩

/-- append within a round, at its operation. -/
theorem wpLIn_app {F : Fence} {n : Nat} {P : Program} {ops : Array Oper} {rest : List Oper} {o : Oper} {a : Act} {w : World} {Q : Exit → Act → World → Prop} (hgd : o.guard = none) (s x : Operand) (t tx : TypeId)
    (ho : o.op = .call { callee := .builtin .append, args := #[s, x], argTypes := #[t, tx] })
    {base m k sz bt : Nat} {e : TypeId} {z v y : Value} {xs news : List Value} (hT : Elem P t e z sz bt) (hs : a.eval s = v) (hx : a.eval x = y) (hown : w.ownsRow base e sz v k xs) (hsrc : Src P sz tx y m news w)
    (h63 : k + m ≤ maxLen) (hbytes : (k + m) * bt ≤ 140737488355328) (hbase : base ≤ w.heap.size)
    (h : ∀ v' w', w'.ownsRow base e sz v' (k + m) (xs ++ news) → w.grownBy w' v.ownBlock → (v'.ownBlock = v.ownBlock ∨ v'.ownBlock = some w.heap.size) → wpListIn F n P ops Q rest (a.put o.dst v') w') :
    wpListIn F n P ops Q (o :: rest) a w := by
  refine wpListIn_plain hgd fun K hK => ?_
  obtain ⟨v', w', hr, h1, h2, h3⟩ := run_app (ty := o.type) hT hown hsrc h63 hbytes hbase
  unfold Oper.wpIn
  refine ⟨?_, ?_⟩
  · simp [Oper.about, ho, resolve, Target.leads, Sem.run_pure]
  · rw [Oper.semAt_plain F _ _ (by rw [ho]; intro c hc'; cases hc')]
    simp [execOp, ho, resolve, invoke, builtin, hs, hx, hr, Result.andThen]
    exact hK _ _ (h v' w' h1 h2 h3)
/-- Between two rounds: k things have been told. -/
structure AJ (w W : World) (p : Nat) (l : List Int) (k : Nat) : Prop where
  box : ∃ v, W.heap[p]? = some (.cells #[v] 26 (0, 0)) ∧ W.ownsRow (w.heap.size + 2) 3 1 v k (is (l.take k))
  kp : Keeps (fun i => i = p ∨ w.heap.size ≤ i) w W
theorem AJ.robust {w : World} {p : Nat} {l : List Int} (hp : p < w.heap.size) (k : Nat) : Robust w.heap.size (fun W => AJ w W p l k) := by
  rintro W r o ⟨⟨v, h1, h2⟩, h3⟩ hr hlt
  have hgr := grownBy_putObj' W r o
  refine ⟨⟨v, row_far h1 hgr (fun e => by have := Option.some.inj e; omega), h2.kept hgr ?_⟩, h3.grown hgr (fun q e => .inl (.inr (by have := Option.some.inj e; omega)))⟩
  cases hk : v.ownBlock with
  | none => exact .inl rfl
  | some q => exact .inr (fun e => by have := (h2.lt q hk).1; have := Option.some.inj e; omega)
/-- What the law tells of all things. -/
def AllIs (w : World) (n : Nat) (l : List Int) (e : Ending) (w' : World) : Prop := ∃ A c, e = .returned (.slice A n c) ∧ Rd w' w'.heap.size 1 A n c (is l) ∧ Below w.heap.size w w'
set_option maxHeartbeats 4000000 in
set_option maxRecDepth 8000 in
theorem lall_any {w : World} {B g : Nat} {v : Value} {t : Bv} (h : Bg w B g v t) : Calls Try.prog 14 #[.pointer (some ⟨g, 0, none⟩)] w (AllIs w t.l.length t.l) := by
  have hb0 : Below w.heap.size w (w.alloc (.cells #[.slice none 0 0] 26)) := (Below.refl _ _).alloc (Nat.le_refl _) _
  have HB0 := Lib.hid hb0
  have HR0 := Lib.hid (heap_alloc_new w (.cells #[.slice none 0 0] 26))
  have HA := Lib.hid (all_any (h.below hb0))
  have HT := Lib.hid (show t.l.length ≤ 256 by have := h.room; have := h.most; omega)
  have hq : ∀ W, (binOp .eql 46 (.func (.func 22) #[] #[.pointer (some ⟨w.heap.size + 1, 0, none⟩)]) Value.nilFunc).run Try.prog W = .ok (.bool false) W := fun W => rfl
  unfold Alls at HA
  simp only [World.size_alloc] at HA
  clear h hb0
  refine (callsIn_wide (n := 9)).1 ?_
  refine callsIn_of_wp_marks Try.func14 rfl trivial ?_ rfl
  simp only [Try.ntmps14, List.size_toArray, List.length_nil, List.length_cons, Nat.reduceAdd, Nat.reduceSub, Array.replicate_succ, Array.replicate_zero, List.push_toArray, List.append_toArray, List.nil_append, List.cons_append]
  gi_wp2_with (first
    | (refine ⟨trivial, ?_⟩; gi_at_call 20; refine (callsIn_wide.2 HA.out).mono ?_; clear HA; rintro e w2 ⟨A2, cc, rfl, hr2, hd2, hb2⟩)
    | fail)
  have hr0 := row_below HR0.out (show Below (w.alloc (.cells #[.slice none 0 0] 26)).heap.size _ w2 by simpa using hb2)
  have hsz2 := (Array.getElem?_eq_some_iff.1 hr2).1
  have hbw : Below w.heap.size w w2 := HB0.out.trans (hb2.mono (by simp))
  have hd2' : w2.ownsRow (w.heap.size + 2) 3 1 (.slice A2 t.l.length cc) t.l.length (is t.l) := hd2
  have hlt2 := fun q hq => (hd2'.lt q hq)
  have hbox : ∀ k W', AJ w2 W' w.heap.size t.l k → W'.cell? ⟨w.heap.size + 1, 0, none⟩ = some (.slice A2 t.l.length cc) ∧ Rd W' W'.heap.size 1 A2 t.l.length cc (is t.l) := by
    intro k W' hJ
    refine ⟨cell_of_row W' _ 0 _ _ _ (hJ.kp.row hr2 (by omega)), ownsRow_rd (hJ.kp.own hd2' (fun q hq hF => ?_))⟩
    have := hlt2 q hq
    omega
  have HBX := Lib.hid hbox
  have HJ0 : Hid (AJ w2 w2 w.heap.size t.l 0) := Lib.hid ⟨⟨_, hr0, World.ownsRow_nil _ _ _ _⟩, Keeps.refl _ _⟩
  have HBW := Lib.hid hbw
  clear hbox hbw hr0 hr2 hd2 hd2' hlt2
  refine wpIn_rangeJ rfl (by omega) (gf := 22) (lb := #[.pointer (some ⟨w.heap.size + 1, 0, none⟩)]) rfl trivial (enters_of Try.func22 (by kernel_rfl) rfl)
    (encs := fun x : Int => #[.int .i64 x]) (fun _ => rfl)
    (fun k W' => AJ w2 W' w.heap.size t.l k) (fun k x W' => x = t.l.getD k 0 ∧ AJ w2 W' w.heap.size t.l k)
    (fun _ _ => False) t.l.length ?hJ ?hJ' (fun _ _ _ _ h _ _ => h) ?h0 ?hiter
    (fun x => { tmps := #[.pointer (some ⟨g, 0, none⟩), undef, .slice none 0 0, .pointer (some ⟨w.heap.size, 0, none⟩), .func (.func 22) #[] #[.pointer (some ⟨w.heap.size + 1, 0, none⟩)], .int .i64 x, .pointer (some ⟨g, 0, none⟩), .func (.func 22) #[] #[.pointer (some ⟨w.heap.size + 1, 0, none⟩)], .func (.func 22) #[] #[.pointer (some ⟨w.heap.size + 1, 0, none⟩)], .bool false, .func (.func 22) #[] #[.pointer (some ⟨w.heap.size + 1, 0, none⟩)], .int .i64 x, undef, undef, undef, undef, undef], defers := [] })
    ?assign ?body ?done (fun _ _ h _ => h.elim)
  case hJ => exact fun k => AJ.robust (by omega) k
  case hJ' => exact fun k x W' r o h hr hl => ⟨h.1, AJ.robust (by omega) k W' r o h.2 hr hl⟩
  case h0 =>
    intro o o'
    have hb : Below w2.heap.size w2 ((w2.alloc o).alloc o') := ((Below.refl _ _).alloc (Nat.le_refl _) _).alloc (by simp) _
    obtain ⟨⟨v0, h1, h2⟩, _⟩ := HJ0.out
    exact ⟨⟨v0, row_below h1 hb, (Keeps.of_below (F := fun _ => False) hb).own h2 (fun _ _ h => h)⟩, Keeps.of_below hb⟩
  case hiter =>
    intro l0 R Rx hR hY hRs hRx W' hJW hRW
    refine iter_in 8 l0 (w.heap.size + 1) t.l.length cc A2 t.l (fun k W' => AJ w2 W' w.heap.size t.l k) R Rx (by omega) (by have := HT.out; omega) ?_ ?_ W' hJW hRW
    · exact fun k W' hJ _ => HBX.out k W' hJ
    · exact fun k W' hk hJ hRk => hY k _ W' hk ⟨rfl, hJ⟩ hRk
  case assign =>
    intro l0 x W' K hK
    gi_wp2
    exact hK
  case body =>
    rintro l0 k x W' hk ⟨rfl, hJ⟩ hlt2
    obtain ⟨v', hb', ho'⟩ := hJ.box
    obtain ⟨A1, c1, rfl⟩ := ownsRow_form ho'
    have d1 : W'.cell? ⟨w.heap.size, 0, none⟩ = some (.slice A1 k c1) := cell_of_row W' _ 0 _ _ _ hb'
    have hnext : is (t.l.take k) ++ [.int .i64 (t.l.getD k 0)] = is (t.l.take (k + 1)) := by
      rw [List.take_succ_eq_append_getElem hk, is_app]
      simp [hk, is]
    have HNX := Lib.hid hnext
    have HBO := Lib.hid hb'
    have HOO := Lib.hid ho'
    have HK := Lib.hid hJ.kp
    generalize t.l.getD k 0 = x at *
    have hsrc := Src.lit (P := Try.prog) (w := W') Try.underlying26 (e := 3) #[.int .i64 x] (n := 1) (sz := 1) rfl (by intro u hu; simp at hu; subst hu; rfl)
    clear hnext hb' ho' hJ
    gi_wp2_with (first
      | (gi_at_builtin; refine wpLIn_app rfl (.tmp 12) (.tmp 14) _ _ rfl Ei (m := 1) rfl rfl (HOO.out.alloc _) hsrc (by have := HT.out; unfold maxLen; omega) (by have := HT.out; omega) (by simp; omega) ?_; intro v2 w3 hown3 hg3 hat3
         obtain ⟨A3, c3, rfl⟩ := ownsRow_form hown3
         have hr3 := row_far (row_below HBO.out ((Below.refl _ _).alloc (Nat.le_refl _) _)) hg3 (fun e => by have := (HOO.out.lt _ e.symm).1; omega)
         have d3 : w3.cell? ⟨w.heap.size, 0, none⟩ = some (.slice A1 k c1) := cell_of_row w3 _ 0 _ _ _ hr3
         have f3 := frozen_of_row w3 _ 0 _ _ hr3
         have HO3 := Lib.hid hown3
         have HG3 := Lib.hid hg3
         have HR3 := Lib.hid hr3
         clear hown3 hg3 hr3 hat3)
      | fail)
    have hvB : ∀ q, Value.ownBlock (.slice A1 k c1) = some q → w2.heap.size + 2 ≤ q := fun q hq => (HOO.out.lt q hq).1
    have k1 : Keeps (fun i => w2.heap.size + 2 ≤ i) W' w3 := ((Keeps.refl _ _).alloc _).grown HG3.out (fun q hq => .inl (hvB q hq))
    have k2 := Keeps.set w3 w.heap.size 0 (.slice A3 (k + 1) c3)
    have k3 : Keeps (fun i => i = w.heap.size ∨ w2.heap.size + 2 ≤ i) W' (w3.setCell ⟨w.heap.size, 0, none⟩ (.slice A3 (k + 1) c3)) := (k1.wide (F' := fun i => i = w.heap.size ∨ w2.heap.size + 2 ≤ i) (fun i hi => .inr hi)).trans k2 (fun i hi => .inl (.inl hi))
    refine ⟨⟨k3.size, k3.block _ (by omega) (by omega), k3.block _ (by omega) (by omega)⟩, ⟨.slice A3 (k + 1) c3, ?_, ?_⟩, HK.out.trans k3 (fun i hi => .inl (by omega))⟩
    · rw [heap_setCell_same w3 w.heap.size 0 _ _ _ HR3.out]; rfl
    · rw [← HNX.out]
      exact k2.own HO3.out (fun q hq e => by have := (HO3.out.lt q hq).1; omega)
  case done =>
    intro W' hJ hD
    obtain ⟨v', hb', ho'⟩ := hJ.box
    rw [List.take_length] at ho'
    obtain ⟨A1, c1, rfl⟩ := ownsRow_form ho'
    have d1 : W'.cell? ⟨w.heap.size, 0, none⟩ = some (.slice A1 t.l.length c1) := cell_of_row W' _ 0 _ _ _ hb'
    have HO := Lib.hid ho'
    have HK := Lib.hid hJ.kp
    clear ho' hb' hJ
    gi_wp2
    refine ⟨by simp, .inl ⟨_, _, rfl, run_takeDeferred hD, ?_⟩⟩
    have hg := grownBy_putObj' W' w2.heap.size (.deferred none)
    refine ⟨_, results_tmp rfl _ _ _, A1, c1, rfl, ?_, ?_⟩
    · refine ownsRow_rd (HO.out.kept hg ?_)
      cases hk : Value.ownBlock (.slice A1 t.l.length c1) with
      | none => exact .inl rfl
      | some q => exact .inr (fun e => by have := (HO.out.lt q hk).1; have := Option.some.inj e; omega)
    · have k2 := HK.out.grown hg (fun q e => .inl (.inr (by have := Option.some.inj e; omega)))
      have hs := HBW.out.size
      exact HBW.out.trans ⟨k2.os, k2.tape, k2.output, k2.size, fun i hi => k2.block i (by omega) (by omega)⟩
end Go.Proofs.Ytdddknncndjbcaa
