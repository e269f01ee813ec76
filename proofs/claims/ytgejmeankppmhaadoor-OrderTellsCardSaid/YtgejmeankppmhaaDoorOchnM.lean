/- Chain: entries that are put one behind the other. -/
import Derived.Test.YtgejmeankppmhaaDoorOmkM
import Derived.Test.YtgejmeankppmhaaDoorOrfstM
import Derived.Deep.MidRow
import Derived.Great.BuildSlice
import Derived.Laws.Tables
namespace Go.Proofs.YtgejmeankppmhaaDoor.Bh
open Go.RowKit
set_option maxRecDepth 20000

theorem ens_one (es : List En) : ∀ v ∈ ens es, v.oneCell' = true := by
  intro v hv
  unfold ens at hv
  obtain ⟨e, _, h⟩ := List.mem_flatMap.1 hv
  exact e_one e v h
theorem ens_app (a b : List En) : ens (a ++ b) = ens a ++ ens b := by simp [ens]
theorem E_en : Elem Tryd.prog 22 43 (.agg Ez.cells) 10 96 := Elem.mk_ Tryd.underlying22 (by kernel_rfl) rfl (by decide)
theorem set_far {w : World} {g j : Nat} {cs : Array Value} {t : TypeId} {u : Value} (h : w.heap[g]? = some (.cells cs t (0, 0))) : (w.setCell ⟨g, j, none⟩ u).heap[g]? = some (.cells (cs.setIfInBounds j u) t (0, 0)) ∧ w.grownBy (w.setCell ⟨g, j, none⟩ u) (some g) := by
  rw [setCell_eq_setRow w g j cs t (0, 0) u h]
  exact ⟨setRow_heap w g _ _ t _ h, ⟨rfl, rfl, rfl, by simp, fun k _ hk => setRow_other w g k _ (fun e => hk (by rw [e]))⟩⟩
theorem Rd.stayn {w w' : World} {B sz n c : Nat} {A : Option Addr} {xs : List Value} (h : Rd w B sz A n c xs) (k : 0 < n → ∀ b o, A = some ⟨b, o, none⟩ → b < B → w'.heap[b]? = w.heap[b]?) : Rd w' B sz A n c xs := by
  obtain ⟨h1, h2, h3, h4⟩ := h
  refine ⟨h1, h2, h3, fun hn => ?_⟩
  obtain ⟨b, o, hA, hb, hc⟩ := h4 hn
  exact ⟨b, o, hA, hb, fun j u hu => (World.cell?_of_block (a := ⟨b, o + j, none⟩) (k hn b o hA hb)).trans (hc j u hu)⟩

/-! ### The best of an index, as data -/
theorem En.Reads.stays {e : En} {w w' : World} (h : e.Reads w) (k : 0 < e.bn → ∀ x, e.A = some x → x.block < w.heap.size → w'.heap[x.block]? = w.heap[x.block]?) (hz : w.heap.size ≤ w'.heap.size) : e.Reads w' :=
  ⟨h.ix, h.tm, h.st, h.kd, h.look, h.da, (Rd.stayn h.rd (fun hn _ _ hA hb => k hn _ hA hb)).more hz, h.len, h.oks⟩
theorem En.Reads.grown {e : En} {w w' : World} {row : Option Nat} (h : e.Reads w) (hg : w.grownBy w' row) (hne : 0 < e.bn → ∀ x, e.A = some x → row ≠ some x.block) : e.Reads w' :=
  h.stays (fun hn x hA hb => hg.block x.block hb (fun e => hne hn x hA e.symm)) hg.size
theorem ens_cons (e : En) (es : List En) : ens (e :: es) = e.cells.toList ++ ens es := rfl
theorem ens_set {v : Value} {f : Nat} (hf : f < 10) {rest : List Value} : ∀ (es : List En) (k : Nat) (e e' : En), es[k]? = some e → e'.cells.toList = e.cells.toList.set f v → (ens es ++ rest).set (k * 10 + f) v = ens (es.set k e') ++ rest := by
  intro es
  induction es with
  | nil => intro k e e' h; cases h
  | cons p es ih =>
    intro k e e' h hc
    have hl : p.cells.toList.length = 10 := rfl
    cases k with
    | zero =>
      simp only [List.getElem?_cons_zero, Option.some.injEq] at h
      subst h
      rw [ens_cons, List.set_cons_zero, ens_cons, hc, Nat.zero_mul, Nat.zero_add, List.append_assoc, List.append_assoc, List.set_append_left _ _ (by omega)]
    | succ k =>
      rw [List.getElem?_cons_succ] at h
      rw [ens_cons, List.set_cons_succ, ens_cons, List.append_assoc, List.append_assoc, List.set_append_right _ _ (by omega), show (k + 1) * 10 + f - p.cells.toList.length = k * 10 + f by omega, ih k e e' h hc]
/-- A row of entries that is being stored into. -/
structure M2 (w wr : World) (g : Nat) (es : List En) (rest : List Value) : Prop where
  bel : Below w.heap.size w wr
  lo : w.heap.size ≤ g
  row : wr.heap[g]? = some (.cells (ens es ++ rest).toArray 43 (0, 0))
  reads : ∀ e ∈ es, e.Reads wr
  apart : ∀ e ∈ es, 0 < e.bn → ∀ x, e.A = some x → x.block ≠ g
theorem M2.below {w wr w' : World} {g : Nat} {es : List En} {rest : List Value} (h : M2 w wr g es rest) (hb : Below wr.heap.size wr w') : M2 w w' g es rest :=
  ⟨h.bel.trans (hb.mono h.bel.size), h.lo, row_below h.row hb, fun e he => (h.reads e he).below hb, h.apart⟩
theorem M2.set {w wr : World} {g k f : Nat} {es : List En} {rest : List Value} {e e' : En} {v : Value} (h : M2 w wr g es rest) (hk : es[k]? = some e) (hf : f < 10) (hc : e'.cells.toList = e.cells.toList.set f v) (hr : e'.Reads wr) (ha : 0 < e'.bn → ∀ x, e'.A = some x → x.block ≠ g) :
    M2 w (wr.setCell ⟨g, k * 10 + f, none⟩ v) g (es.set k e') rest := by
  obtain ⟨h1, hg⟩ := set_far (j := k * 10 + f) (u := v) h.row
  have hbel := h.bel.grown hg h.bel.size (fun q e => by cases e; exact h.lo)
  have hmem : ∀ d ∈ es.set k e', d.Reads wr ∧ (0 < d.bn → ∀ x, d.A = some x → x.block ≠ g) := fun d hd => by
    rcases List.mem_or_eq_of_mem_set hd with hd | rfl
    · exact ⟨h.reads d hd, h.apart d hd⟩
    · exact ⟨hr, ha⟩
  refine ⟨hbel, h.lo, ?_, fun d hd => ?_, fun d hd => (hmem d hd).2⟩
  · rw [h1, List.setIfInBounds_toArray, ens_set hf es k e e' hk hc]
  · obtain ⟨hr, ha⟩ := hmem d hd
    exact hr.grown hg (fun hn x hA e => ha hn x hA (by cases e; rfl))

theorem ents_take {w : World} {A : Option Addr} {n c k : Nat} {es : List En} (h : Ents w A n c es) (hk : k ≤ n) : Ents w A k c (es.take k) := by
  have hl := h.len
  refine ⟨⟨Nat.le_trans hk h.rd.1, h.rd.2.1, by rw [ens_len, List.length_take]; omega, fun hk0 => ?_⟩, by rw [List.length_take]; omega, fun e he => h.reads e (List.mem_of_mem_take he)⟩
  obtain ⟨b, o, hA, hb, hc⟩ := h.rd.2.2.2 (by omega)
  refine ⟨b, o, hA, hb, fun j u hu => hc j u ?_⟩
  have : ens es = ens (es.take k) ++ ens (es.drop k) := by rw [← ens_app, List.take_append_drop]
  rw [this, List.getElem?_append_left ((List.getElem?_eq_some_iff.1 hu).1)]
  exact hu
theorem M2.ents {w wr : World} {g c : Nat} {es : List En} {rest : List Value} (h : M2 w wr g es rest) (hc : es.length ≤ c) (hm : c ≤ maxLen) : Ents wr (some ⟨g, 0, none⟩) es.length c es := by
  refine ⟨⟨hc, hm, ens_len es, fun _ => ⟨g, 0, rfl, (Array.getElem?_eq_some_iff.1 h.row).1, fun j u hu => ?_⟩⟩, rfl, h.reads⟩
  rw [Nat.zero_add, cell_of_row wr g j _ _ _ h.row, List.getElem?_toArray, List.getElem?_append_left ((List.getElem?_eq_some_iff.1 hu).1)]
  exact hu
/-- An entry that is put at place j behind the others. -/
def linked (f : Nat) (m : Int) (es : List En) (j : Nat) (e : En) (A : Option Addr) (c : Nat) : En := ⟨f + j, e.tm, e.st, e.kd, e.cl, e.rq, e.fr, e.ct, e.da, A, mk m j, c, mades (es.take j) (mk m j)⟩

set_option maxHeartbeats 2000000 in
theorem eclone_any {w : World} {A : Option Addr} {n c : Nat} {es : List En} (h : Ents w A n c es) (hn : n ≤ 1000) :
    Calls Tryd.prog 39 #[.slice A n c] w fun e w' => ∃ v', e = .returned v' ∧ w'.ownsRow w.heap.size 43 10 v' n (ens es) ∧ Below w.heap.size w w' := by
  have hrd := h.rd
  have hlen := h.len
  have q := Lib.run_eql_slice_nil (P := Tryd.prog) w 22 _ A n c 0 0 Tryd.underlying22
  cases A with
  | none =>
    have h0 : n = 0 := by
      rcases Nat.eq_zero_or_pos n with h0 | h0
      · exact h0
      · obtain ⟨b, o, hA, _⟩ := hrd.2.2.2 h0
        cases hA
    subst h0
    have h3 : es = [] := List.eq_nil_of_length_eq_zero hlen
    subst h3
    clear h hrd hn hlen
    go_enter Tryd.func39, Tryd.ntmps39
    go_wp2
    go_ret
    exact ⟨_, rfl, World.ownsRow_nil _ _ _ _, Below.refl _ _⟩
  | some p =>
    go_enter Tryd.func39, Tryd.ntmps39
    go_wp2_with (first
      | (at_builtin; refine wpL_app (o := ⟨some 7, _, _, _, _, _⟩) (v := .slice (some ⟨w.heap.size, 0, none⟩) 0 0) (y := .slice (some p) n c) rfl (.tmp 5) (.tmp 6) _ _ rfl E_en rfl rfl (World.ownsRow_lit (base := w.heap.size) w #[] 0 (Nat.le_refl _) (Nat.zero_le _) rfl)
           ((hrd.below ((Below.refl _ _).alloc (Nat.le_refl _) _)).src Tryd.underlying22 (ens_one _)) (by unfold maxLen; omega) (by omega) (by simp) ?_; intro v3 w3 hown3 hg3 hat3)
      | fail)
    go_ret
    refine ⟨v3, rfl, ?_, ?_⟩
    · simpa using hown3
    · exact ((Below.refl _ _).alloc (Nat.le_refl _) _).grown hg3 (by simp) (fun j e => by cases e; exact Nat.le_refl _)

set_option maxHeartbeats 8000000 in
theorem chain_any {w : World} {A : Option Addr} {n c : Nat} {es : List En} (h : Ents w A n c es) (hn : n ≤ 200) (f : Nat) (hf : f + n < 18446744073709551616) (m : Int) :
    Calls Tryd.prog 18 #[.slice A n c, .int .u64 (f : Int), .int .i64 m] w fun r w' => ∃ A' c' es', r = .returned (.slice A' n c') ∧ Ents w' A' n c' es' ∧ (∀ (j : Nat) (e : En), es[j]? = some e → ∃ A'' c'', es'[j]? = some (linked f m es j e A'' c'')) ∧ Below w.heap.size w w' := by
  have hlen := h.len
  have HC := Lib.hid (eclone_any h (by omega))
  have HH := Lib.hid h
  have hni : (n : Int) ≤ 200 := by omega
  have hfi : (f : Int) + (n : Int) < 18446744073709551616 := by omega
  have hf0 : (0 : Int) ≤ (f : Int) := by omega
  rcases Nat.eq_zero_or_pos n with h0 | h0
  · subst h0
    have h3 : es = [] := List.eq_nil_of_length_eq_zero hlen
    subst h3
    clear h hn hf
    go_enter Tryd.func18, Tryd.ntmps18
    go_wp2_with (first
      | (go_at_call 39; refine HC.out.mono ?_; rintro e w1 ⟨v1, rfl, hown1, hb1⟩; obtain ⟨A1, c1, rfl⟩ := ownsRow_form hown1)
      | fail)
    have HO1 := Lib.hid hown1
    have HB1 := Lib.hid hb1
    clear hown1 hb1
    go_loopw [8, 13] (fun _ kr wr => kr = .int .i64 0 ∧ wr = w1) (fun _ _ _ => 0)
    case atStart => exact ⟨rfl, rfl⟩
    case round =>
      obtain ⟨rfl, rfl⟩ := hrel
      go_wp2
      go_ret
      exact ⟨_, _, [], rfl, ⟨ownsRow_rd HO1.out, rfl, (fun _ h => by cases h)⟩, (fun j e h => by cases h), HB1.out⟩
  · clear h hn hf
    go_enter Tryd.func18, Tryd.ntmps18
    go_wp2_with (first
      | (go_at_call 39; refine HC.out.mono ?_; rintro e w1 ⟨v1, rfl, hown1, hb1⟩; obtain ⟨A1, c1, rfl⟩ := ownsRow_form hown1)
      | fail)
    have hrow : ∃ g rest, A1 = some ⟨g, 0, none⟩ ∧ n ≤ c1 ∧ c1 ≤ maxLen ∧ M2 w w1 g es rest ∧ ∀ e ∈ es, 0 < e.bn → ∀ x, e.A = some x → x.block ≠ g := by
      obtain ⟨_, h2⟩ := hown1
      rcases h2 with ⟨hv, he⟩ | ⟨g, cap, cur, hv, hbg, hg, hnc, hcm, hcs, htake⟩
      · omega
      · have hap : ∀ e ∈ es, 0 < e.bn → ∀ x, e.A = some x → x.block ≠ g := fun e he hb x hx hxg => by
          obtain ⟨b, o, h1, h2, _⟩ := (HH.out.reads e he).rd.2.2.2 hb
          rw [hx] at h1
          cases h1
          dsimp only at hxg
          omega
        cases hv
        refine ⟨g, cur.toList.drop (n * 10), rfl, hnc, hcm, ⟨hb1, hbg, ?_, fun e he => (HH.out.reads e he).below hb1, hap⟩, hap⟩
        rw [hg, ← htake, List.take_append_drop]
    obtain ⟨g, rest, rfl, hnc, hcm, hm2, _⟩ := hrow
    have HM := Lib.hid hm2
    have HCM := Lib.hid (And.intro hnc hcm)
    clear hnc hcm hm2 hown1 hb1 HC
    go_loopw [8, 13] (fun _ kr wr => ∃ (k : Nat) (es2 : List En), k ≤ n ∧ kr = .int .i64 (k : Int) ∧ Hid (es2.length = n) ∧ Hid (∀ (j : Nat) (e : En), j < k → es[j]? = some e → ∃ A'' c'', es2[j]? = some (linked f m es j e A'' c'')) ∧ Hid (∀ (j : Nat), k ≤ j → es2[j]? = es[j]?) ∧ Hid (M2 w wr g es2 rest)) (fun _ kr _ => n - (intOf kr).toNat)
    case atStart => exact ⟨0, es, Nat.zero_le _, rfl, Lib.hid hlen, Lib.hid (fun j e h => absurd h (Nat.not_lt_zero _)), Lib.hid (fun _ _ => rfl), HM⟩
    case round =>
      clear HM
      obtain ⟨k, es2, hk, rfl, HLE, HG, HS, HM⟩ := hrel
      by_cases hlt : k < n
      · obtain ⟨e0, he⟩ : ∃ e0, es[k]? = some e0 := ⟨_, List.getElem?_eq_getElem (by omega)⟩
        have he2 : es2[k]? = some e0 := by rw [HS.out k (Nat.le_refl _)]; exact he
        have hki : (k : Int) < (n : Int) := by omega
        have v1 : IntKind.u64.wrap (k : Int) = (k : Int) := u64w _ (by omega) (by omega)
        have v2 : IntKind.u64.wrap ((f : Int) + (k : Int)) = (f : Int) + (k : Int) := u64w _ (by omega) (by omega)
        have hfk : f + k < 18446744073709551616 := by omega
        have hr0 := HM.out.reads e0 (List.mem_of_getElem? he2)
        have hm4 := HM.out.set (k := k) (f := 0) (e := e0) (e' := ⟨f + k, e0.tm, e0.st, e0.kd, e0.cl, e0.rq, e0.fr, e0.ct, e0.da, e0.A, e0.bn, e0.bc, e0.ls⟩) (v := .int .u64 ((f + k : Nat) : Int)) he2 (by decide) rfl ⟨hfk, hr0.tm, hr0.st, hr0.kd, hr0.look, hr0.da, hr0.rd, hr0.len, hr0.oks⟩ (HM.out.apart e0 (List.mem_of_getElem? he2))
        rw [show ((f + k : Nat) : Int) = (f : Int) + (k : Int) by omega, Nat.add_zero] at hm4
        have hle10 : ∀ p v, e0.cells[p]? = some v → (ens es2 ++ rest)[k * 10 + p]? = some v := fun p v hv => by
          have := ens_get es2 k e0 he2 p v hv
          rw [List.getElem?_append_left (List.getElem?_eq_some_iff.1 this).1]
          exact this
        have c1' : wr.cell? ⟨g, k * 10, none⟩ = some (.int .u64 (e0.ix : Int)) := by rw [cell_of_row wr g _ _ _ _ HM.out.row, List.getElem?_toArray]; exact hle10 0 _ rfl
        have f1' := frozen_of_row wr g (k * 10) _ _ HM.out.row
        have HM4 := Lib.hid hm4
        have HE := Lib.hid he
        have HLT := Lib.hid hlt
        have HKL := Lib.hid (show k < es2.length by have := HLE.out; omega)
        have HENT := Lib.hid (fun W' (hb : Below w.heap.size w W') => make_any (w := W') (A := A) (n := k) (c := c) (es := es.take k) (ents_take (HH.out.below hb) (Nat.le_of_lt hlt)) (by omega) m)
        have hcA : (n : Int) ≤ (c : Int) := by have := HH.out.rd.1; omega
        have hcM : (c : Int) ≤ 9223372036854775807 := by have := HH.out.rd.2.1; unfold maxLen at this; omega
        clear he he2 hr0 hm4 hle10 hlt
        go_wp2_with (first
          | (go_at_call 40
             refine (HENT.out _ HM4.out.bel).mono ?_
             rintro e w4 ⟨v4, rfl, hown4, hb4⟩
             obtain ⟨A4, c4, rfl⟩ := ownsRow_form hown4
             have HM5 := Lib.hid (HM4.out.below hb4)
             have HO4 := Lib.hid hown4
             have c9 := cell_of_row w4 g (k * 10 + 9) _ _ _ HM5.out.row
             have f9 := frozen_of_row w4 g (k * 10 + 9) _ _ HM5.out.row
             rw [List.getElem?_toArray, List.getElem?_append_left (by rw [ens_len, List.length_set]; have := HKL.out; omega), ens_get _ k _ (by rw [List.getElem?_set_self HKL.out]) 9 _ rfl] at c9
             clear hb4 hown4)
          | fail)
        go_roundw
        case rel =>
          have hr4 := HM5.out.reads _ (List.mem_of_getElem? (show (es2.set k _)[k]? = some _ by rw [List.getElem?_set_self HKL.out]))
          have hmk : mk m k ≤ k := by unfold mk; omega
          have hset := HM5.out.set (k := k) (f := 9) (e := ⟨f + k, e0.tm, e0.st, e0.kd, e0.cl, e0.rq, e0.fr, e0.ct, e0.da, e0.A, e0.bn, e0.bc, e0.ls⟩) (e' := linked f m es k e0 A4 c4) (v := .slice A4 (mk m k) c4) (by rw [List.getElem?_set_self HKL.out]) (by decide) rfl
            ⟨hr4.ix, hr4.tm, hr4.st, hr4.kd, hr4.look, hr4.da, ownsRow_rd HO4.out, mades_len _ _ (by rw [List.length_take]; omega), fun l hl => by
              have hl2 : l ∈ mades (es.take k) (mk m k) := hl
              unfold mades at hl2
              obtain ⟨d, hd, rfl⟩ := List.mem_map.1 hl2
              exact (HH.out.reads d (List.mem_of_mem_take (List.mem_reverse.1 (List.mem_of_mem_take hd)))).look⟩
            (fun _ x hA hx => by
              have h1 := (HO4.out.lt x.block (by rw [show A4 = some x from hA]; rfl)).1
              have h2 := (Array.getElem?_eq_some_iff.1 HM4.out.row).1
              omega)
          rw [List.set_set] at hset
          refine ⟨k + 1, es2.set k (linked f m es k e0 A4 c4), HLT.out, by go_num, Lib.hid (by rw [List.length_set]; exact HLE.out), Lib.hid (fun j e hj he => ?_), Lib.hid (fun j hj => ?_), Lib.hid hset⟩
          · by_cases hjk : k = j
            · subst hjk
              rw [HE.out] at he
              cases he
              exact ⟨A4, c4, by rw [List.getElem?_set_self HKL.out]⟩
            · rw [List.getElem?_set_ne hjk]
              exact HG.out j e (by omega) he
          · rw [List.getElem?_set_ne (by omega)]
            exact HS.out j (by omega)
        case measure => have := HLT.out; simp [intOf]; omega
      · obtain rfl : k = n := by omega
        go_wp2
        go_ret
        have he := HM.out.ents (by rw [HLE.out]; exact HCM.out.1) HCM.out.2
        rw [HLE.out] at he
        exact ⟨_, _, es2, rfl, he, fun j e h => HG.out j e (by have := (List.getElem?_eq_some_iff.1 h).1; omega) h, HM.out.bel⟩
end Go.Proofs.YtgejmeankppmhaaDoor.Bh
