/- What a new leader goes on with, as data; rows of entries that are stored into. merge.Merge. -/
import Derived.Test.YtapfggpeodpflaaMbestM
namespace Go.Proofs.Ytapfggpeodpflaa
open Go.RowKit
set_option maxRecDepth 20000

/-- The entry of place j that is gone on with, or none's. -/
def srcE (Ls : List Li) (base j : Nat) : En := (bst Ls (base + 1 + j)).getD ⟨base + 1 + j, 0, 0, 2, 0, 0, 0, 0, [], none, 0, 0, []⟩
def hasE (Ls : List Li) (base j : Nat) : Bool := (bst Ls (base + 1 + j)).isSome
/-- How many of k are gone on with. -/
def hadN (f : Nat → Bool) : Nat → Nat
  | 0 => 0
  | k + 1 => if f k = true then k + 1 else hadN f k
theorem hadN_le (f : Nat → Bool) (k : Nat) : hadN f k ≤ k := by
  induction k with
  | zero => exact Nat.le_refl _
  | succ k ih => unfold hadN; split <;> omega
def goes (base term : Nat) (n : Int) (Ls : List Li) (had j : Nat) : En :=
  ⟨base + 1 + j, term, base + 1 + had, (srcE Ls base j).kd, (srcE Ls base j).cl, (srcE Ls base j).rq, (srcE Ls base j).fr, (srcE Ls base j).ct, (srcE Ls base j).da, none, mk n j, 0, mades ((List.range j).map (srcE Ls base)) (mk n j)⟩
theorem srcE_ix (Ls : List Li) (base j : Nat) : (srcE Ls base j).ix = base + 1 + j := by
  unfold srcE
  cases h : bst Ls (base + 1 + j) with
  | none => rfl
  | some e => exact (bestOf_ix h).1
/-- An entry that has a source's index and content. -/
structure Core (s e : En) : Prop where
  ix : e.ix = s.ix
  kd : e.kd = s.kd
  cl : e.cl = s.cl
  rq : e.rq = s.rq
  fr : e.fr = s.fr
  ct : e.ct = s.ct
  da : e.da = s.da
theorem Core.look {s e : En} (h : Core s e) : e.look = s.look := by unfold En.look; rw [h.cl, h.rq, h.fr, h.ct]
theorem mades_core {f : Nat → En} {es : List En} {j : Nat} (hl : j ≤ es.length) (h : ∀ i e, es[i]? = some e → Core (f i) e) (k : Nat) : mades (es.take j) k = mades ((List.range j).map f) k := by
  have : (es.take j).map En.look = ((List.range j).map f).map En.look := by
    apply List.ext_getElem?
    intro i
    simp only [List.getElem?_map, List.getElem?_take]
    by_cases hi : i < j
    · rw [if_pos hi, List.getElem?_range hi]
      obtain ⟨e, he⟩ : ∃ e, es[i]? = some e := ⟨_, List.getElem?_eq_getElem (by omega)⟩
      rw [he]
      exact congrArg some (h i e he).look
    · rw [if_neg hi, List.getElem?_eq_none (by simp; omega)]
      rfl
  unfold mades
  rw [List.map_take, List.map_reverse, this, ← List.map_reverse, ← List.map_take]

theorem ens_cons (e : En) (es : List En) : ens (e :: es) = e.cells.toList ++ ens es := rfl
theorem ens_set {v : Value} {f : Nat} (hf : f < 10) {rest : List Value} : ∀ (es : List En) (k : Nat) (e e' : En), es[k]? = some e → e'.cells.toList = e.cells.toList.set f v → (ens es ++ rest).set (k * 10 + f) v = ens (es.set k e') ++ rest := by
  intro es
  induction es with
  | nil => intro k e e' h; cases h
  | cons p es ih =>
    intro k e e' h hc
    have hl : p.cells.toList.length = 10 := rfl
    cases k with
    | zero =>
      simp only [List.getElem?_cons_zero, Option.some.injEq] at h
      subst h
      rw [ens_cons, List.set_cons_zero, ens_cons, hc, Nat.zero_mul, Nat.zero_add, List.append_assoc, List.append_assoc, List.set_append_left _ _ (by omega)]
    | succ k =>
      rw [List.getElem?_cons_succ] at h
      rw [ens_cons, List.set_cons_succ, ens_cons, List.append_assoc, List.append_assoc, List.set_append_right _ _ (by omega), show (k + 1) * 10 + f - p.cells.toList.length = k * 10 + f by omega, ih k e e' h hc]
/-- A row of entries that is being stored into. -/
structure M2 (w wr : World) (g : Nat) (es : List En) (rest : List Value) : Prop where
  bel : Below w.heap.size w wr
  lo : w.heap.size ≤ g
  row : wr.heap[g]? = some (.cells (ens es ++ rest).toArray 55 (0, 0))
  reads : ∀ e ∈ es, e.Reads wr
  apart : ∀ e ∈ es, 0 < e.bn → ∀ x, e.A = some x → x.block ≠ g
theorem M2.below {w wr w' : World} {g : Nat} {es : List En} {rest : List Value} (h : M2 w wr g es rest) (hb : Below wr.heap.size wr w') : M2 w w' g es rest :=
  ⟨h.bel.trans (hb.mono h.bel.size), h.lo, row_below h.row hb, fun e he => (h.reads e he).below hb, h.apart⟩
theorem M2.set {w wr : World} {g k f : Nat} {es : List En} {rest : List Value} {e e' : En} {v : Value} (h : M2 w wr g es rest) (hk : es[k]? = some e) (hf : f < 10) (hc : e'.cells.toList = e.cells.toList.set f v) (hr : e'.Reads wr) (ha : 0 < e'.bn → ∀ x, e'.A = some x → x.block ≠ g) :
    M2 w (wr.setCell ⟨g, k * 10 + f, none⟩ v) g (es.set k e') rest := by
  obtain ⟨h1, hg⟩ := set_far (j := k * 10 + f) (u := v) h.row
  have hbel := h.bel.grown hg h.bel.size (fun q e => by cases e; exact h.lo)
  have hmem : ∀ d ∈ es.set k e', d.Reads wr ∧ (0 < d.bn → ∀ x, d.A = some x → x.block ≠ g) := fun d hd => by
    rcases List.mem_or_eq_of_mem_set hd with hd | rfl
    · exact ⟨h.reads d hd, h.apart d hd⟩
    · exact ⟨hr, ha⟩
  refine ⟨hbel, h.lo, ?_, fun d hd => ?_, fun d hd => (hmem d hd).2⟩
  · rw [h1, List.setIfInBounds_toArray, ens_set hf es k e e' hk hc]
  · obtain ⟨hr, ha⟩ := hmem d hd
    exact hr.grown hg (fun hn x hA e => ha hn x hA (by cases e; rfl))
/-- The entry with another Term and Start. -/
def En.led (e : En) (tm st : Nat) : En := ⟨e.ix, tm, st, e.kd, e.cl, e.rq, e.fr, e.ct, e.da, e.A, e.bn, e.bc, e.ls⟩
theorem M2.set2 {w wr : World} {g k : Nat} {es : List En} {rest : List Value} {e : En} {tm st : Nat} (h : M2 w wr g es rest) (hk : es[k]? = some e) (ht : tm < 18446744073709551616) (hs : st < 18446744073709551616) :
    M2 w ((wr.setCell ⟨g, k * 10 + 1, none⟩ (.int .u64 (tm : Int))).setCell ⟨g, k * 10 + 2, none⟩ (.int .u64 (st : Int))) g (es.set k (e.led tm st)) rest := by
  have hr := h.reads e (List.mem_of_getElem? hk)
  have ha := h.apart e (List.mem_of_getElem? hk)
  have hlt := (List.getElem?_eq_some_iff.1 hk).1
  have h1 := h.set (f := 1) (e' := e.led tm e.st) (v := .int .u64 (tm : Int)) hk (by decide) rfl ⟨hr.ix, ht, hr.st, hr.kd, hr.look, hr.da, hr.rd, hr.len, hr.oks⟩ ha
  have hr1 := h1.reads (e.led tm e.st) (List.mem_of_getElem? (by rw [List.getElem?_set_self hlt]))
  have h2 := h1.set (k := k) (f := 2) (e := e.led tm e.st) (e' := e.led tm st) (v := .int .u64 (st : Int)) (by rw [List.getElem?_set_self hlt]) (by decide) rfl ⟨hr1.ix, hr1.tm, hs, hr1.kd, hr1.look, hr1.da, hr1.rd, hr1.len, hr1.oks⟩ ha
  rwa [List.set_set] at h2
theorem M2.ents {w wr : World} {g c k : Nat} {es : List En} {rest : List Value} (h : M2 w wr g es rest) (hk : k ≤ es.length) (hc : k ≤ c) (hm : c ≤ maxLen) : Ents wr (some ⟨g, 0, none⟩) k c (es.take k) := by
  refine ⟨⟨hc, hm, by rw [ens_len, List.length_take]; omega, fun _ => ⟨g, 0, rfl, (Array.getElem?_eq_some_iff.1 h.row).1, fun j u hu => ?_⟩⟩, by rw [List.length_take]; omega, fun e he => h.reads e (List.mem_of_mem_take he)⟩
  rw [Nat.zero_add, cell_of_row wr g j _ _ _ h.row, List.getElem?_toArray]
  have : ens es = ens (es.take k) ++ ens (es.drop k) := by rw [← ens_app, List.take_append_drop]
  rw [this, List.append_assoc, List.getElem?_append_left ((List.getElem?_eq_some_iff.1 hu).1)]
  exact hu
/-- The row of what is told so far. -/
structure M1 (w wr : World) (v : Value) (es : List En) : Prop where
  bel : Below w.heap.size w wr
  own : wr.ownsRow w.heap.size 55 10 v es.length (ens es)
  reads : ∀ e ∈ es, e.Reads wr
  apart : ∀ e ∈ es, 0 < e.bn → ∀ x, e.A = some x → v.ownBlock ≠ some x.block
theorem M1.below {w wr w' : World} {v : Value} {es : List En} (h : M1 w wr v es) (hb : Below wr.heap.size wr w') : M1 w w' v es :=
  ⟨h.bel.trans (hb.mono h.bel.size), owns_below h.own hb, fun e he => (h.reads e he).below hb, h.apart⟩
theorem M1.app {w wr w' : World} {v v' : Value} {es : List En} {e : En} (h : M1 w wr v es) (ho : w'.ownsRow w.heap.size 55 10 v' (es.length + 1) (ens es ++ ens [e])) (hg : wr.grownBy w' v.ownBlock) (hat : v'.ownBlock = v.ownBlock ∨ v'.ownBlock = some wr.heap.size)
    (hr : e.Reads wr) (ha : 0 < e.bn → ∀ x, e.A = some x → v.ownBlock ≠ some x.block) : M1 w w' v' (es ++ [e]) := by
  have hall : ∀ d ∈ es ++ [e], d.Reads wr ∧ (0 < d.bn → ∀ x, d.A = some x → v.ownBlock ≠ some x.block) := fun d hd => by
    rcases List.mem_append.1 hd with hd | hd
    · exact ⟨h.reads d hd, h.apart d hd⟩
    · cases List.mem_singleton.1 hd
      exact ⟨hr, ha⟩
  refine ⟨h.bel.grown hg h.bel.size (fun k e => (h.own.lt k e).1), by rw [List.length_append, ens_app]; exact ho, fun d hd => (hall d hd).1.grown hg (hall d hd).2, fun d hd hn x hA => ?_⟩
  rcases hat with hat | hat
  · rw [hat]; exact (hall d hd).2 hn x hA
  · rw [hat]
    have := (hall d hd).1.in_ hn hA
    intro e
    have : wr.heap.size = x.block := by simpa using e
    omega
theorem M1.row {w wr : World} {v : Value} {es : List En} (h : M1 w wr v es) (hn : 0 < es.length) : ∃ g c rest, v = .slice (some ⟨g, 0, none⟩) es.length c ∧ es.length ≤ c ∧ c ≤ maxLen ∧ M2 w wr g es rest := by
  obtain ⟨_, h2⟩ := h.own
  rcases h2 with ⟨hv, he⟩ | ⟨g, cap, cur, hv, hbg, hg, hnc, hcm, hcs, htake⟩
  · omega
  · refine ⟨g, cap, cur.toList.drop (es.length * 10), hv, hnc, hcm, h.bel, hbg, ?_, h.reads, fun e he hp x hA hx => h.apart e he hp x hA (by rw [hv]; simp [Value.ownBlock, hx])⟩
    rw [hg, ← htake, List.take_append_drop]
end Go.Proofs.Ytapfggpeodpflaa

namespace Go.Proofs.Ytapfggpeodpflaa
open Go.RowKit
set_option maxRecDepth 20000

/-- What Merge tells. -/
def TMerge (w : World) (base term : Nat) (n : Int) (Ls : List Li) (r : Ending) (w' : World) : Prop :=
  ∃ A c es, r = .returned (.slice A (hadN (hasE Ls base) 192) c) ∧ Ents w' A (hadN (hasE Ls base) 192) c es ∧ (∀ j, j < hadN (hasE Ls base) 192 → ∃ A' c', es[j]? = some ((goes base term n Ls (hadN (hasE Ls base) 192) j).put A' c')) ∧ Below w.heap.size w w'
theorem core_snoc {f : Nat → En} {es : List En} {k : Nat} {p : En} (hl : es.length = k) (h : ∀ j e, es[j]? = some e → Core (f j) e) (hp : Core (f k) p) : ∀ j e, (es ++ [p])[j]? = some e → Core (f j) e := by
  intro j e he
  rcases Nat.lt_or_ge j es.length with h1 | h1
  · rw [List.getElem?_append_left h1] at he
    exact h j e he
  · rw [List.getElem?_append_right h1] at he
    obtain ⟨h2, h3⟩ := List.getElem?_eq_some_iff.1 he
    simp only [List.length_singleton] at h2
    obtain rfl : j = k := by omega
    simp only [List.getElem_singleton] at h3
    rw [← h3]
    exact hp
theorem noop_reads {X term : Nat} {w : World} (hX : X < 18446744073709551616) (ht : term < 18446744073709551616) : En.Reads ⟨X, term, 0, 2, 0, 0, 0, 0, [], none, 0, 0, []⟩ w :=
  ⟨hX, ht, show 0 < 18446744073709551616 by decide, show (Lit.int .i64 2).wf = true by decide, ⟨show 0 < 18446744073709551616 by decide, show 0 < 18446744073709551616 by decide, show 0 < 4294967296 by decide, show 0 < 4294967296 by decide⟩, Nat.zero_le _, Rd.nil_, rfl, fun _ h => by cases h⟩
theorem made_goes {Ls : List Li} {base term H k : Nat} {m : Int} {es : List En} {e : En} (he : es[k]? = some e) (hc : ∀ j e, es[j]? = some e → Core (srcE Ls base j) e) (hk : k < es.length) (A : Option Addr) (c : Nat) :
    (goes base term m Ls H k).put A c = ⟨e.ix, term, base + 1 + H, e.kd, e.cl, e.rq, e.fr, e.ct, e.da, A, mk m k, c, mades (es.take k) (mk m k)⟩ := by
  have h := hc k e he
  rw [mades_core (Nat.le_of_lt hk) hc, h.ix, h.kd, h.cl, h.rq, h.fr, h.ct, h.da, srcE_ix]
  rfl
theorem made_reads {w : World} {e : En} {term st k B : Nat} {m : Int} {A : Option Addr} {c : Nat} {es : List En} (h : e.Reads w) (ht : term < 18446744073709551616) (hs : st < 18446744073709551616)
    (ho : w.ownsRow B 78 4 (.slice A (mk m k) c) (mk m k) (lks (mades (es.take k) (mk m k)))) (hl : ∀ e ∈ es, e.look.Ok) (hk : k ≤ es.length) :
    En.Reads ⟨e.ix, term, st, e.kd, e.cl, e.rq, e.fr, e.ct, e.da, A, mk m k, c, mades (es.take k) (mk m k)⟩ w := by
  have hm : mk m k ≤ k := by unfold mk; omega
  refine ⟨h.ix, ht, hs, h.kd, h.look, h.da, ownsRow_rd ho, mades_len _ _ (by rw [List.length_take]; omega), fun l hm => ?_⟩
  unfold mades at hm
  obtain ⟨d, hd, rfl⟩ := List.mem_map.1 hm
  exact hl d (List.mem_of_mem_take (List.mem_reverse.1 (List.mem_of_mem_take hd)))
theorem own_k {w : World} {base k : Nat} {v : Value} {es : List En} (h : es.length = k) (ho : w.ownsRow base 55 10 v es.length (ens es)) : w.ownsRow base 55 10 v k (ens es) := by
  rwa [h] at ho
set_option maxHeartbeats 8000000 in
theorem merge_any {w : World} {A : Option Addr} {n c : Nat} {Ls : List Li} (h : Slc Li.lay w A n c Ls) (hf : ∀ e ∈ flat Ls, e.bn ≤ 200) (base term : Nat) (hb : base ≤ 4611686018427387904) (ht : term < 18446744073709551616) (m : Int) :
    Calls Try.prog 26 #[.int .u64 (base : Int), .int .u64 (term : Int), .int .i64 m, .slice A n c] w (TMerge w base term m Ls) := by
  have HH := Lib.hid h
  have HF := Lib.hid hf
  have HT := Lib.hid ht
  have hbi : (base : Int) ≤ 4611686018427387904 := by omega
  have hbi0 : (0 : Int) ≤ (base : Int) := by omega
  have q1 : min (192 : Int) (18446744073709551615 - (base : Int)) = 192 := by omega
  have q2 : (if (18446744073709551615 - (base : Int)) < 192 then (18446744073709551615 - (base : Int)) else 192) = 192 := by rw [if_neg (by omega)]
  obtain ⟨H, hH⟩ : ∃ H, hadN (hasE Ls base) 192 = H := ⟨_, rfl⟩
  unfold TMerge
  rw [hH]
  have HHH := Lib.hid hH
  clear h hf ht hb hH
  go_enter Try.func26, Try.ntmps26
  go_wp2_with (fail)
  clear q1 q2
  go_loopw [9, 10, 11, 12, 14, 19] (fun ov hv _ _ _ kv wr => ∃ (k : Nat) (es : List En), k ≤ 192 ∧ kv = .int .u64 (k : Int) ∧ hv = .int .i64 ((hadN (hasE Ls base) k : Nat) : Int) ∧ Hid (es.length = k) ∧ Hid (∀ j e, es[j]? = some e → Core (srcE Ls base j) e) ∧ Hid (M1 w wr ov es)) (fun _ _ _ _ _ kv _ => 192 - (intOf kv).toNat)
  case atStart => exact ⟨0, [], Nat.zero_le _, rfl, rfl, Lib.hid rfl, Lib.hid (fun j e h => by cases h), Lib.hid ⟨Below.refl _ _, World.ownsRow_nil w _ _ _, fun _ h => (by cases h), fun _ h => (by cases h)⟩⟩
  case round =>
    obtain ⟨k, es, hk, rfl, rfl, HLE, HC, HM⟩ := hrel
    by_cases hlt : k < 192
    · have hki : (k : Int) < 192 := by omega
      have hki0 : (0 : Int) ≤ (k : Int) := by omega
      obtain ⟨X, hX⟩ : ∃ X : Nat, X = base + 1 + k := ⟨_, rfl⟩
      have hX64 : X < 18446744073709551616 := by omega
      have v1 : IntKind.u64.wrap ((base : Int) + 1) = (base : Int) + 1 := u64w _ (by omega) (by omega)
      have v2 : IntKind.u64.wrap ((base : Int) + 1 + (k : Int)) = (X : Int) := by rw [u64w _ (by omega) (by omega)]; omega
      have v3 : IntKind.u64.wrap ((k : Int) + 1) = (k : Int) + 1 := u64w _ (by omega) (by omega)
      have hsrc : srcE Ls base k = (bst Ls X).getD ⟨X, 0, 0, 2, 0, 0, 0, 0, [], none, 0, 0, []⟩ := by unfold srcE; rw [← hX]
      have hhad : hadN (hasE Ls base) (k + 1) = if (bst Ls X).isSome = true then k + 1 else hadN (hasE Ls base) k := by
        show (if hasE Ls base k = true then k + 1 else hadN (hasE Ls base) k) = _
        unfold hasE
        rw [← hX]
      have HBE := Lib.hid (best_any (HH.out.below HM.out.bel) HF.out X hX64)
      have hbix : ∀ e, bst Ls X = some e → e.ix = X ∧ e.Reads w := fun e he => ⟨(bestOf_ix he).1, flat_reads HH.out e (bestOf_mem he)⟩
      have hhle := hadN_le (hasE Ls base) k
      have HSRC := Lib.hid hsrc
      have HHAD := Lib.hid hhad
      have HKX := Lib.hid hX
      have HX64 := Lib.hid hX64
      have HLT := Lib.hid hlt
      have hhi : ((hadN (hasE Ls base) k : Nat) : Int) ≤ 192 := by omega
      clear hX hsrc hhad hhle hX64 hlt
      generalize hadN (hasE Ls base) k = hd at *
      obtain ⟨A0, c0, hv0⟩ := ownsRow_form HM.out.own
      subst hv0
      rw [HLE.out] at HM ⊢
      have HAP := Lib.hid (fun x (hx : (Value.slice A0 k c0).ownBlock = some x) => (HM.out.own.lt x hx).2)
      have hc0 : (k : Int) ≤ 192 := by omega
      cases hb : bst Ls X with
      | none =>
        clear hbix
        rw [hb] at HBE HSRC HHAD
        unfold TBest curE En.put at HBE
        dsimp only [Option.getD_none, Option.isSome_none] at HBE
        unfold Ez enNil En.cells at HBE
        dsimp only at HBE
        have HNO := Lib.hid (fun W => noop_any X term 0 W)
        unfold En.cells at HNO
        dsimp only at HNO
        go_wp2_with (first
          | (go_at_call 38; refine HBE.out.mono ?_; rintro e w1 ⟨A1, c1, rfl, hr1, hA1, hb1⟩
             have HM1 := Lib.hid (HM.out.below hb1)
             clear hb1 hA1 hr1)
          | (go_at_call 39; refine (HNO.out _).mono ?_; rintro e w2 ⟨rfl, hb2⟩
             have HR2 := Lib.hid (row_below (heap_alloc_new w1 (.cells #[.int .u64 0, .int .u64 0, .int .u64 0, .int .i64 0, .int .u64 0, .int .u64 0, .int .u32 0, .int .u32 0, .string ⟨#[]⟩, .slice A1 0 c1] 55)) hb2)
             have HM2 := Lib.hid ((HM1.out.below ((Below.refl _ _).alloc (Nat.le_refl _) (.cells #[.int .u64 0, .int .u64 0, .int .u64 0, .int .i64 0, .int .u64 0, .int .u64 0, .int .u32 0, .int .u32 0, .string ⟨#[]⟩, .slice A1 0 c1] 55))).below hb2)
             have HM3 := Lib.hid (fun W (hg : w2.grownBy W (some w1.heap.size)) => HM1.out.below ((((Below.refl _ _).alloc (Nat.le_refl _) _).trans (hb2.mono (by simp))).grown hg (Nat.le_trans (by simp) hb2.size) (fun k e => by cases e; exact Nat.le_refl _)))
             clear hb2)
          | (refine wpL_estore rfl (.tmp 13) (.tmp 36) rfl (e := ⟨X, term, 0, 2, 0, 0, 0, 0, [], none, 0, 0, []⟩) (d := ⟨0, 0, 0, 0, 0, 0, 0, 0, [], A1, 0, c1, []⟩) rfl rfl HR2.out ?_
             intro W9 hr9 hg9 hz9
             have HM4 := Lib.hid (HM3.out W9 hg9)
             have HR9 := Lib.hid hr9.out)
          | (refine wpL_midk rfl _ (.tmp 13) rfl _ rfl (.agg #[.int .u64 (X : Int), .int .u64 (term : Int), .int .u64 ((0 : Nat) : Int), .int .i64 2, .int .u64 ((0 : Nat) : Int), .int .u64 ((0 : Nat) : Int), .int .u32 ((0 : Nat) : Int), .int .u32 ((0 : Nat) : Int), .string (str []), .slice none 0 0]) (e_loads (e := ⟨X, term, 0, 2, 0, 0, 0, 0, [], none, 0, 0, []⟩) HR9.out) ?_; intro K hK; go_simp; refine hK _ _ ?_; clear hK K)
          | (at_builtin
             refine wpL_app (o := ⟨some 40, _, _, _, _, _⟩) (v := .slice A0 k c0) (y := .slice (some ⟨W9.heap.size, 0, none⟩) 1 1) rfl (.tmp 37) (.tmp 39) _ _ rfl E_en rfl rfl (own_k HLE.out (HM4.out.below ((Below.refl _ _).alloc (Nat.le_refl _) _)).own) (Src.lit' rfl (n := 1) (sz := 10) Try.underlying23 #[.int .u64 (X : Int), .int .u64 (term : Int), .int .u64 ((0 : Nat) : Int), .int .i64 2, .int .u64 ((0 : Nat) : Int), .int .u64 ((0 : Nat) : Int), .int .u32 ((0 : Nat) : Int), .int .u32 ((0 : Nat) : Int), .string (str []), .slice none 0 0] rfl (by simp [Value.oneCell'])) (by unfold maxLen; omega) (by omega) (Nat.le_trans HM4.out.bel.size (by simp)) ?_
             intro v3 w3 hown3 hg3 hat3
             obtain ⟨A3, c3, rfl⟩ := ownsRow_form hown3)
          | fail)
        go_roundw
        case rel =>
          refine ⟨k + 1, es ++ [⟨X, term, 0, 2, 0, 0, 0, 0, [], none, 0, 0, []⟩], by have := HLT.out; omega, by go_num, ?_, ?_, ?_, ?_⟩
          · rw [HHAD.out]; rfl
          · exact Lib.hid (by rw [List.length_append, HLE.out]; rfl)
          · exact Lib.hid (core_snoc HLE.out HC.out (by rw [HSRC.out]; exact ⟨rfl, rfl, rfl, rfl, rfl, rfl, rfl⟩))
          · refine Lib.hid ((HM4.out.below ((Below.refl _ _).alloc (Nat.le_refl _) _)).app (by rw [HLE.out]; exact hown3) (by rw [HLE.out] at *; exact hg3) (by rw [HLE.out] at *; exact hat3) (noop_reads HX64.out HT.out) (fun h => absurd h (Nat.lt_irrefl _)))
        case measure => have := HLT.out; simp [intOf]; omega
      | some e0 =>
        obtain ⟨hix, hr0⟩ := hbix e0 hb
        clear hbix
        rw [hb] at HBE HSRC HHAD
        unfold TBest curE En.put at HBE
        dsimp only [Option.getD_some, Option.isSome_some] at HBE
        obtain ⟨ix, tm, st, kd, cl, rq, fr, ct, da, A9, bn, c9, ls⟩ := e0
        unfold En.cells at HBE
        dsimp only at HBE hix
        subst hix
        go_wp2_with (first
          | (go_at_call 38; refine HBE.out.mono ?_; rintro e w1 ⟨A1, c1, rfl, hr1, hA1, hb1⟩
             have HM1 := Lib.hid (HM.out.below hb1)
             have HM2 := Lib.hid (HM1.out.below ((Below.refl _ _).alloc (Nat.le_refl _) (.cells #[.int .u64 (ix : Int), .int .u64 (tm : Int), .int .u64 (st : Int), .int .i64 kd, .int .u64 (cl : Int), .int .u64 (rq : Int), .int .u32 (fr : Int), .int .u32 (ct : Int), .string (str da), .slice A1 bn c1] 55)))
             have HR1 := Lib.hid hr1
             have HA1 := Lib.hid hA1
             clear hb1 hA1 hr1)
          | (at_builtin
             refine wpL_app (o := ⟨some 40, _, _, _, _, _⟩) (v := .slice A0 k c0) (y := .slice (some ⟨w1.heap.size + 1, 0, none⟩) 1 1) rfl (.tmp 37) (.tmp 39) _ _ rfl E_en rfl rfl (own_k HLE.out (HM2.out.below ((Below.refl _ _).alloc (Nat.le_refl _) _)).own) (Src.lit' (by simp) (n := 1) (sz := 10) Try.underlying23 #[.int .u64 (ix : Int), .int .u64 (tm : Int), .int .u64 (st : Int), .int .i64 kd, .int .u64 (cl : Int), .int .u64 (rq : Int), .int .u32 (fr : Int), .int .u32 (ct : Int), .string (str da), .slice A1 bn c1] rfl (by simp [Value.oneCell'])) (by unfold maxLen; omega) (by omega) (Nat.le_trans HM2.out.bel.size (by simp)) ?_
             intro v3 w3 hown3 hg3 hat3
             obtain ⟨A3, c3, rfl⟩ := ownsRow_form hown3)
          | fail)
        go_roundw
        case rel =>
          refine ⟨k + 1, es ++ [⟨ix, tm, st, kd, cl, rq, fr, ct, da, A1, bn, c1, ls⟩], by have := HLT.out; omega, by go_num, ?_, ?_, ?_, ?_⟩
          · rw [HHAD.out]; rfl
          · exact Lib.hid (by rw [List.length_append, HLE.out]; rfl)
          · exact Lib.hid (core_snoc HLE.out HC.out (by rw [HSRC.out]; exact ⟨rfl, rfl, rfl, rfl, rfl, rfl, rfl⟩))
          · refine Lib.hid ((HM2.out.below ((Below.refl _ _).alloc (Nat.le_refl _) _)).app (by rw [HLE.out]; exact hown3) hg3 hat3 (HR1.out.below (((Below.refl _ _).alloc (Nat.le_refl _) _).alloc (by simp) _)) (fun _ x hA e => ?_))
            have h1 := HA1.out x hA
            have h2 := HAP.out x.block e
            omega
        case measure => have := HLT.out; simp [intOf]; omega
    · obtain rfl : k = 192 := by omega
      rw [show ((192 : Nat) : Int) = 192 from rfl]
      obtain ⟨g, c0, rest, hv, hcc, hcm, HM2⟩ := HM.out.row (by rw [HLE.out]; decide)
      subst hv
      have HM3 := Lib.hid HM2
      clear HM2
      have hHle := hadN_le (hasE Ls base) 192
      rw [HHH.out] at hHle ⊢
      rw [HLE.out] at hcc ⊢
      have hHi : (H : Int) ≤ 192 := by omega
      have hci : (192 : Int) ≤ (c0 : Int) := by omega
      have hHc : (H : Int) ≤ (c0 : Int) := by omega
      have hcM : (c0 : Int) ≤ 9223372036854775807 := by unfold maxLen at hcm; omega
      have HCM := Lib.hid (And.intro hcc hcm)
      clear hlt hk HM hcc hcm
      go_wp2_with (fail)
      obtain ⟨wo, rfl⟩ : ∃ wo : World, wo = wr := ⟨_, rfl⟩
      go_loopw [15, 50] (fun _ kv wr => ∃ (k : Nat) (es : List En), k ≤ H ∧ kv = .int .i64 (k : Int) ∧ Hid (es.length = 192) ∧ Hid (∀ j e, es[j]? = some e → Core (srcE Ls base j) e) ∧ Hid (∀ j, j < k → ∃ A' c', es[j]? = some ((goes base term m Ls H j).put A' c')) ∧ Hid (M2 w wr g es rest)) (fun _ kv _ => H - (intOf kv).toNat)
      case atStart => exact ⟨0, es, Nat.zero_le _, rfl, HLE, HC, Lib.hid (fun j h => absurd h (Nat.not_lt_zero _)), HM3⟩
      case round =>
        clear HM3 HLE HC
        clear es
        obtain ⟨k, es, hk, rfl, HLE, HC, HG, HM2⟩ := hrel
        by_cases hlt : k < H
        · obtain ⟨e0, he⟩ : ∃ e0, es[k]? = some e0 := ⟨_, List.getElem?_eq_getElem (by have := HLE.out; omega)⟩
          have hki : (k : Int) < (H : Int) := by omega
          have v1 : IntKind.u64.wrap ((base : Int) + 1) = (base : Int) + 1 := u64w _ (by omega) (by omega)
          have v4 : IntKind.u64.wrap (H : Int) = (H : Int) := u64w _ (by omega) (by omega)
          have v5 : IntKind.u64.wrap ((base : Int) + 1 + (H : Int)) = ((base + 1 + H : Nat) : Int) := by rw [u64w _ (by omega) (by omega)]; omega
          have hle10 : ∀ f v, f < 10 → e0.cells[f]? = some v → (ens es ++ rest)[k * 10 + f]? = some v := fun f v hf hv => by
            have := ens_get es k e0 he f v hv
            rw [List.getElem?_append_left (List.getElem?_eq_some_iff.1 this).1]
            exact this
          have c1 : wr.cell? ⟨g, k * 10 + 1, none⟩ = some (.int .u64 (e0.tm : Int)) := by rw [cell_of_row wr g _ _ _ _ HM2.out.row, List.getElem?_toArray]; exact hle10 1 _ (by decide) rfl
          have c2 : wr.cell? ⟨g, k * 10 + 2, none⟩ = some (.int .u64 (e0.st : Int)) := by rw [cell_of_row wr g _ _ _ _ HM2.out.row, List.getElem?_toArray]; exact hle10 2 _ (by decide) rfl
          have f1 := frozen_of_row wr g (k * 10 + 1) _ _ HM2.out.row
          have f2 := frozen_of_row wr g (k * 10 + 2) _ _ HM2.out.row
          have hre := HM2.out.reads e0 (List.mem_of_getElem? he)
          have hap := HM2.out.apart e0 (List.mem_of_getElem? he)
          have HS2 := HM2.out.set2 he (tm := term) (st := base + 1 + H) HT.out (by omega)
          rw [show ((base + 1 + H : Nat) : Int) = (base : Int) + 1 + (H : Int) by omega] at HS2
          have HM4 := Lib.hid HS2
          have HE := Lib.hid he
          have HRE := Lib.hid hre
          have HLT := Lib.hid hlt
          have HKL := Lib.hid (show k < es.length by have := HLE.out; omega)
          have HB5 := Lib.hid (show base + 1 + H < 18446744073709551616 by omega)
          clear he hle10 hlt hre hap HS2
          go_wp2_with (first
            | (go_at_call 40
               refine (make_any (HM4.out.ents (Nat.le_of_lt (by rw [List.length_set]; exact HKL.out)) (Nat.le_trans (Nat.le_of_lt HLT.out) (by omega)) HCM.out.2) (by omega) m).mono ?_
               rintro e w4 ⟨v4, rfl, hown4, hb4⟩
               obtain ⟨A4, c4, rfl⟩ := ownsRow_form hown4
               have HM5 := Lib.hid (HM4.out.below hb4)
               have HO4 := Lib.hid hown4
               have c9 := cell_of_row w4 g (k * 10 + 9) _ _ _ HM5.out.row
               have f9 := frozen_of_row w4 g (k * 10 + 9) _ _ HM5.out.row
               rw [List.getElem?_toArray, List.getElem?_append_left (by rw [ens_len, List.length_set]; have := HKL.out; omega), ens_get _ k _ (by rw [List.getElem?_set_self HKL.out]) 9 _ rfl] at c9
               clear hb4 hown4)
            | fail)
          go_roundw
          case rel =>
            have hmd : (es.set k (e0.led term (base + 1 + H))).take k = es.take k := by rw [List.take_set_of_le (Nat.le_refl _)]
            rw [hmd] at HO4
            have hfin := made_goes HE.out HC.out HKL.out (term := term) (H := H) (m := m) A4 c4
            have hset := HM5.out.set (k := k) (f := 9) (e := e0.led term (base + 1 + H)) (e' := (goes base term m Ls H k).put A4 c4) (v := .slice A4 (mk m k) c4) (by rw [List.getElem?_set_self HKL.out]) (by decide) (by rw [hfin]; rfl)
              (by rw [hfin]; exact made_reads (e := e0.led term (base + 1 + H)) (HM5.out.reads (e0.led term (base + 1 + H)) (List.mem_of_getElem? (by rw [List.getElem?_set_self HKL.out]))) HT.out HB5.out HO4.out (fun e he => (HM2.out.reads e he).look) (by have := HKL.out; omega))
              (fun _ x hA hx => by
                have h1 := (HO4.out.lt x.block (by rw [show A4 = some x from hA]; rfl)).1
                have h2 := (Array.getElem?_eq_some_iff.1 HM4.out.row).1
                omega)
            rw [List.set_set] at hset
            refine ⟨k + 1, es.set k ((goes base term m Ls H k).put A4 c4), HLT.out, by go_num, Lib.hid (by rw [List.length_set]; exact HLE.out), Lib.hid (fun j e hj => ?_), Lib.hid (fun j hj => ?_), Lib.hid hset⟩
            · by_cases hjk : k = j
              · subst hjk
                rw [List.getElem?_set_self HKL.out] at hj
                cases hj
                exact ⟨(srcE_ix Ls base k).symm, rfl, rfl, rfl, rfl, rfl, rfl⟩
              · rw [List.getElem?_set_ne hjk] at hj
                exact HC.out j e hj
            · by_cases hjk : k = j
              · subst hjk
                exact ⟨A4, c4, by rw [List.getElem?_set_self HKL.out]⟩
              · obtain ⟨A', c', h⟩ := HG.out j (by omega)
                exact ⟨A', c', by rw [List.getElem?_set_ne hjk]; exact h⟩
          case measure => have := HLT.out; simp [intOf]; omega
        · obtain rfl : k = H := by omega
          go_wp2
          go_ret
          exact ⟨_, _, _, rfl, HM2.out.ents (by have := HLE.out; omega) (by have := HCM.out; omega) HCM.out.2, fun j hj => by
            obtain ⟨A', c', h⟩ := HG.out j hj
            exact ⟨A', c', by rw [List.getElem?_take, if_pos hj]; exact h⟩, HM2.out.bel⟩
end Go.Proofs.Ytapfggpeodpflaa
