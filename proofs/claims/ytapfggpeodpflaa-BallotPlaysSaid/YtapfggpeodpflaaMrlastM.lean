/- What a new leader goes on with, as data; rows of entries that are stored into. The reference's last. -/
import Derived.Test.YtapfggpeodpflaaMrbestM
namespace Go.Proofs.Ytapfggpeodpflaa
open Go.RowKit
set_option maxRecDepth 20000

/-- The entry of place j that is gone on with, or none's. -/
def srcE (Ls : List Li) (base j : Nat) : En := (bst Ls (base + 1 + j)).getD ⟨base + 1 + j, 0, 0, 2, 0, 0, 0, 0, [], none, 0, 0, []⟩
def hasE (Ls : List Li) (base j : Nat) : Bool := (bst Ls (base + 1 + j)).isSome
/-- How many of k are gone on with. -/
def hadN (f : Nat → Bool) : Nat → Nat
  | 0 => 0
  | k + 1 => if f k = true then k + 1 else hadN f k
theorem hadN_le (f : Nat → Bool) (k : Nat) : hadN f k ≤ k := by
  induction k with
  | zero => exact Nat.le_refl _
  | succ k ih => unfold hadN; split <;> omega
def goes (base term : Nat) (n : Int) (Ls : List Li) (had j : Nat) : En :=
  ⟨base + 1 + j, term, base + 1 + had, (srcE Ls base j).kd, (srcE Ls base j).cl, (srcE Ls base j).rq, (srcE Ls base j).fr, (srcE Ls base j).ct, (srcE Ls base j).da, none, mk n j, 0, mades ((List.range j).map (srcE Ls base)) (mk n j)⟩
theorem srcE_ix (Ls : List Li) (base j : Nat) : (srcE Ls base j).ix = base + 1 + j := by
  unfold srcE
  cases h : bst Ls (base + 1 + j) with
  | none => rfl
  | some e => exact (bestOf_ix h).1
/-- An entry that has a source's index and content. -/
structure Core (s e : En) : Prop where
  ix : e.ix = s.ix
  kd : e.kd = s.kd
  cl : e.cl = s.cl
  rq : e.rq = s.rq
  fr : e.fr = s.fr
  ct : e.ct = s.ct
  da : e.da = s.da
theorem Core.look {s e : En} (h : Core s e) : e.look = s.look := by unfold En.look; rw [h.cl, h.rq, h.fr, h.ct]
theorem mades_core {f : Nat → En} {es : List En} {j : Nat} (hl : j ≤ es.length) (h : ∀ i e, es[i]? = some e → Core (f i) e) (k : Nat) : mades (es.take j) k = mades ((List.range j).map f) k := by
  have : (es.take j).map En.look = ((List.range j).map f).map En.look := by
    apply List.ext_getElem?
    intro i
    simp only [List.getElem?_map, List.getElem?_take]
    by_cases hi : i < j
    · rw [if_pos hi, List.getElem?_range hi]
      obtain ⟨e, he⟩ : ∃ e, es[i]? = some e := ⟨_, List.getElem?_eq_getElem (by omega)⟩
      rw [he]
      exact congrArg some (h i e he).look
    · rw [if_neg hi, List.getElem?_eq_none (by simp; omega)]
      rfl
  unfold mades
  rw [List.map_take, List.map_reverse, this, ← List.map_reverse, ← List.map_take]

theorem ens_cons (e : En) (es : List En) : ens (e :: es) = e.cells.toList ++ ens es := rfl
theorem ens_set {v : Value} {f : Nat} (hf : f < 10) {rest : List Value} : ∀ (es : List En) (k : Nat) (e e' : En), es[k]? = some e → e'.cells.toList = e.cells.toList.set f v → (ens es ++ rest).set (k * 10 + f) v = ens (es.set k e') ++ rest := by
  intro es
  induction es with
  | nil => intro k e e' h; cases h
  | cons p es ih =>
    intro k e e' h hc
    have hl : p.cells.toList.length = 10 := rfl
    cases k with
    | zero =>
      simp only [List.getElem?_cons_zero, Option.some.injEq] at h
      subst h
      rw [ens_cons, List.set_cons_zero, ens_cons, hc, Nat.zero_mul, Nat.zero_add, List.append_assoc, List.append_assoc, List.set_append_left _ _ (by omega)]
    | succ k =>
      rw [List.getElem?_cons_succ] at h
      rw [ens_cons, List.set_cons_succ, ens_cons, List.append_assoc, List.append_assoc, List.set_append_right _ _ (by omega), show (k + 1) * 10 + f - p.cells.toList.length = k * 10 + f by omega, ih k e e' h hc]
/-- A row of entries that is being stored into. -/
structure M2 (w wr : World) (g : Nat) (es : List En) (rest : List Value) : Prop where
  bel : Below w.heap.size w wr
  lo : w.heap.size ≤ g
  row : wr.heap[g]? = some (.cells (ens es ++ rest).toArray 55 (0, 0))
  reads : ∀ e ∈ es, e.Reads wr
  apart : ∀ e ∈ es, 0 < e.bn → ∀ x, e.A = some x → x.block ≠ g
theorem M2.below {w wr w' : World} {g : Nat} {es : List En} {rest : List Value} (h : M2 w wr g es rest) (hb : Below wr.heap.size wr w') : M2 w w' g es rest :=
  ⟨h.bel.trans (hb.mono h.bel.size), h.lo, row_below h.row hb, fun e he => (h.reads e he).below hb, h.apart⟩
theorem M2.set {w wr : World} {g k f : Nat} {es : List En} {rest : List Value} {e e' : En} {v : Value} (h : M2 w wr g es rest) (hk : es[k]? = some e) (hf : f < 10) (hc : e'.cells.toList = e.cells.toList.set f v) (hr : e'.Reads wr) (ha : 0 < e'.bn → ∀ x, e'.A = some x → x.block ≠ g) :
    M2 w (wr.setCell ⟨g, k * 10 + f, none⟩ v) g (es.set k e') rest := by
  obtain ⟨h1, hg⟩ := set_far (j := k * 10 + f) (u := v) h.row
  have hbel := h.bel.grown hg h.bel.size (fun q e => by cases e; exact h.lo)
  have hmem : ∀ d ∈ es.set k e', d.Reads wr ∧ (0 < d.bn → ∀ x, d.A = some x → x.block ≠ g) := fun d hd => by
    rcases List.mem_or_eq_of_mem_set hd with hd | rfl
    · exact ⟨h.reads d hd, h.apart d hd⟩
    · exact ⟨hr, ha⟩
  refine ⟨hbel, h.lo, ?_, fun d hd => ?_, fun d hd => (hmem d hd).2⟩
  · rw [h1, List.setIfInBounds_toArray, ens_set hf es k e e' hk hc]
  · obtain ⟨hr, ha⟩ := hmem d hd
    exact hr.grown hg (fun hn x hA e => ha hn x hA (by cases e; rfl))
/-- The entry with another Term and Start. -/
def En.led (e : En) (tm st : Nat) : En := ⟨e.ix, tm, st, e.kd, e.cl, e.rq, e.fr, e.ct, e.da, e.A, e.bn, e.bc, e.ls⟩
theorem M2.set2 {w wr : World} {g k : Nat} {es : List En} {rest : List Value} {e : En} {tm st : Nat} (h : M2 w wr g es rest) (hk : es[k]? = some e) (ht : tm < 18446744073709551616) (hs : st < 18446744073709551616) :
    M2 w ((wr.setCell ⟨g, k * 10 + 1, none⟩ (.int .u64 (tm : Int))).setCell ⟨g, k * 10 + 2, none⟩ (.int .u64 (st : Int))) g (es.set k (e.led tm st)) rest := by
  have hr := h.reads e (List.mem_of_getElem? hk)
  have ha := h.apart e (List.mem_of_getElem? hk)
  have hlt := (List.getElem?_eq_some_iff.1 hk).1
  have h1 := h.set (f := 1) (e' := e.led tm e.st) (v := .int .u64 (tm : Int)) hk (by decide) rfl ⟨hr.ix, ht, hr.st, hr.kd, hr.look, hr.da, hr.rd, hr.len, hr.oks⟩ ha
  have hr1 := h1.reads (e.led tm e.st) (List.mem_of_getElem? (by rw [List.getElem?_set_self hlt]))
  have h2 := h1.set (k := k) (f := 2) (e := e.led tm e.st) (e' := e.led tm st) (v := .int .u64 (st : Int)) (by rw [List.getElem?_set_self hlt]) (by decide) rfl ⟨hr1.ix, hr1.tm, hs, hr1.kd, hr1.look, hr1.da, hr1.rd, hr1.len, hr1.oks⟩ ha
  rwa [List.set_set] at h2
theorem M2.ents {w wr : World} {g c k : Nat} {es : List En} {rest : List Value} (h : M2 w wr g es rest) (hk : k ≤ es.length) (hc : k ≤ c) (hm : c ≤ maxLen) : Ents wr (some ⟨g, 0, none⟩) k c (es.take k) := by
  refine ⟨⟨hc, hm, by rw [ens_len, List.length_take]; omega, fun _ => ⟨g, 0, rfl, (Array.getElem?_eq_some_iff.1 h.row).1, fun j u hu => ?_⟩⟩, by rw [List.length_take]; omega, fun e he => h.reads e (List.mem_of_mem_take he)⟩
  rw [Nat.zero_add, cell_of_row wr g j _ _ _ h.row, List.getElem?_toArray]
  have : ens es = ens (es.take k) ++ ens (es.drop k) := by rw [← ens_app, List.take_append_drop]
  rw [this, List.append_assoc, List.getElem?_append_left ((List.getElem?_eq_some_iff.1 hu).1)]
  exact hu
/-- The row of what is told so far. -/
structure M1 (w wr : World) (v : Value) (es : List En) : Prop where
  bel : Below w.heap.size w wr
  own : wr.ownsRow w.heap.size 55 10 v es.length (ens es)
  reads : ∀ e ∈ es, e.Reads wr
  apart : ∀ e ∈ es, 0 < e.bn → ∀ x, e.A = some x → v.ownBlock ≠ some x.block
theorem M1.below {w wr w' : World} {v : Value} {es : List En} (h : M1 w wr v es) (hb : Below wr.heap.size wr w') : M1 w w' v es :=
  ⟨h.bel.trans (hb.mono h.bel.size), owns_below h.own hb, fun e he => (h.reads e he).below hb, h.apart⟩
theorem M1.app {w wr w' : World} {v v' : Value} {es : List En} {e : En} (h : M1 w wr v es) (ho : w'.ownsRow w.heap.size 55 10 v' (es.length + 1) (ens es ++ ens [e])) (hg : wr.grownBy w' v.ownBlock) (hat : v'.ownBlock = v.ownBlock ∨ v'.ownBlock = some wr.heap.size)
    (hr : e.Reads wr) (ha : 0 < e.bn → ∀ x, e.A = some x → v.ownBlock ≠ some x.block) : M1 w w' v' (es ++ [e]) := by
  have hall : ∀ d ∈ es ++ [e], d.Reads wr ∧ (0 < d.bn → ∀ x, d.A = some x → v.ownBlock ≠ some x.block) := fun d hd => by
    rcases List.mem_append.1 hd with hd | hd
    · exact ⟨h.reads d hd, h.apart d hd⟩
    · cases List.mem_singleton.1 hd
      exact ⟨hr, ha⟩
  refine ⟨h.bel.grown hg h.bel.size (fun k e => (h.own.lt k e).1), by rw [List.length_append, ens_app]; exact ho, fun d hd => (hall d hd).1.grown hg (hall d hd).2, fun d hd hn x hA => ?_⟩
  rcases hat with hat | hat
  · rw [hat]; exact (hall d hd).2 hn x hA
  · rw [hat]
    have := (hall d hd).1.in_ hn hA
    intro e
    have : wr.heap.size = x.block := by simpa using e
    omega
theorem M1.row {w wr : World} {v : Value} {es : List En} (h : M1 w wr v es) (hn : 0 < es.length) : ∃ g c rest, v = .slice (some ⟨g, 0, none⟩) es.length c ∧ es.length ≤ c ∧ c ≤ maxLen ∧ M2 w wr g es rest := by
  obtain ⟨_, h2⟩ := h.own
  rcases h2 with ⟨hv, he⟩ | ⟨g, cap, cur, hv, hbg, hg, hnc, hcm, hcs, htake⟩
  · omega
  · refine ⟨g, cap, cur.toList.drop (es.length * 10), hv, hnc, hcm, h.bel, hbg, ?_, h.reads, fun e he hp x hA hx => h.apart e he hp x hA (by rw [hv]; simp [Value.ownBlock, hx])⟩
    rw [hg, ← htake, List.take_append_drop]
end Go.Proofs.Ytapfggpeodpflaa

namespace Go.Proofs.Ytapfggpeodpflaa
open Go.RowKit
set_option maxRecDepth 20000

set_option maxHeartbeats 4000000 in
theorem rlast_any {w : World} {A : Option Addr} {n c : Nat} {Ls : List Li} (h : Slc Li.lay w A n c Ls) (hf : (flat Ls).length ≤ 1000) (base : Nat) (hb : base ≤ 4611686018427387904) :
    Calls Try.prog 29 #[.int .u64 (base : Int), .slice A n c] w fun r w' => r = .returned (.int .u64 ((base + hadN (hasE Ls base) 192 : Nat) : Int)) ∧ Below w.heap.size w w' := by
  have HBE := Lib.hid (fun W (hb' : Below w.heap.size w W) x (hx : x < 18446744073709551616) => rbest_any (h.below hb') hf x hx)
  have hbi : (base : Int) ≤ 4611686018427387904 := by omega
  have hbi0 : (0 : Int) ≤ (base : Int) := by omega
  clear h hf hb
  obtain ⟨f, hfq⟩ : ∃ f, hasE Ls base = f := ⟨_, rfl⟩
  rw [hfq]
  have HFQ := Lib.hid hfq
  clear hfq
  go_enter Try.func29, Try.ntmps29
  go_wp2
  go_loopw [5, 6, 8] (fun av kv _ wr => ∃ (i : Nat), i ≤ 192 ∧ kv = .int .u64 ((i : Int) + 1) ∧ av = .int .u64 ((base : Int) + ((hadN f i : Nat) : Int)) ∧ Hid (Below w.heap.size w wr)) (fun _ kv _ _ => 193 - (intOf kv).toNat)
  case atStart => exact ⟨0, Nat.zero_le _, rfl, by show _ = Value.int .u64 ((base : Int) + ((0 : Nat) : Int)); simp, Lib.hid (Below.refl _ _)⟩
  case round =>
    obtain ⟨i, hi, rfl, rfl, HBW⟩ := hrel
    by_cases hlt : i < 192
    · have hki : (i : Int) + 1 ≤ 192 := by omega
      obtain ⟨X, hX⟩ : ∃ X : Nat, X = base + 1 + i := ⟨_, rfl⟩
      have v1 : IntKind.u64.wrap ((base : Int) + ((i : Int) + 1)) = (X : Int) := by rw [u64w _ (by omega) (by omega)]; omega
      have v2 : IntKind.u64.wrap ((i : Int) + 1 + 1) = (i : Int) + 1 + 1 := u64w _ (by omega) (by omega)
      have hBE := HBE.out wr HBW.out X (by omega)
      have hsm : (bst Ls X).isSome = f i := by rw [← HFQ.out, hX]; rfl
      have hst : hadN f (i + 1) = if f i = true then i + 1 else hadN f i := rfl
      rw [hsm] at hBE
      have HX := Lib.hid (show (X : Int) = (base : Int) + ((i : Int) + 1) by omega)
      generalize f i = T at *
      generalize curE (bst Ls X) = e at *
      obtain ⟨ix, tm, st, kd, cl, rq, fr, ct, da, A1, bn, bc, ls⟩ := e
      unfold En.cells at hBE
      dsimp only at hBE
      have HB1 := Lib.hid hBE
      have HST := Lib.hid hst
      have HLT := Lib.hid hlt
      have hhd := hadN_le f i
      clear hBE hX hsm hst hlt
      generalize hadN f i = hd at *
      cases T
      · go_wp2_with (first
          | (go_at_call 30; refine HB1.out.mono ?_; rintro e w1 ⟨rfl, hb1⟩)
          | fail)
        go_roundw
        case rel => exact ⟨i + 1, HLT.out, by go_num, by rw [HST.out]; rfl, Lib.hid ((HBW.out.trans (hb1.mono HBW.out.size)).alloc (Nat.le_trans HBW.out.size hb1.size) _)⟩
        case measure => have := HLT.out; simp [intOf]; omega
      · go_wp2_with (first
          | (go_at_call 30; refine HB1.out.mono ?_; rintro e w1 ⟨rfl, hb1⟩)
          | fail)
        go_roundw
        case rel => exact ⟨i + 1, HLT.out, by go_num, by rw [HST.out, HX.out]; first | rfl | go_num | simp, Lib.hid ((HBW.out.trans (hb1.mono HBW.out.size)).alloc (Nat.le_trans HBW.out.size hb1.size) _)⟩
        case measure => have := HLT.out; simp [intOf]; omega
    · obtain rfl : i = 192 := by omega
      go_wp2
      go_ret
      exact ⟨rfl, HBW.out⟩
end Go.Proofs.Ytapfggpeodpflaa
