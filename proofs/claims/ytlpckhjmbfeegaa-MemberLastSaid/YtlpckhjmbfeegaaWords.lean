/- Words on memory that all walks of this seat share. -/
import Derived.Test.YtlpckhjmbfeegaaRows
import Derived.WalkKit
import Derived.ProofKit
import Derived.OpenShut
import Derived.ShutString
import Derived.ChangeOld
import Derived.Below
import Derived.Handy
import Derived.WalkLawsBesides
import Derived.WalkSpells
import Derived.Lib.Hide
import Derived.Deep.QuietTactic
import Derived.BigQuiet
import Derived.Deep.RegionWith
import Derived.Deep.RegionHeld3
import Derived.Deep.RegionLaw
import Derived.Deep.AppendSrc
import Derived.Laws.CopyOwn
import Derived.Lib.SlBytesConst
namespace Go.Proofs.Ytlpckhjmbfeegaa
open Go.RowKit

theorem addOff (b o k : Nat) : (⟨b, o, none⟩ : Addr).add k = ⟨b, o + k, none⟩ := by
  unfold Addr.add
  split
  · next h => subst h; rfl
  · rfl

/-- The slice value with the parts A, n, c reads the cells xs (sz for each element) in w, below block B. -/
def Rd (w : World) (B sz : Nat) (A : Option Addr) (n c : Nat) (xs : List Value) : Prop :=
  n ≤ c ∧ c ≤ maxLen ∧ xs.length = n * sz ∧ (0 < n → ∃ b o, A = some ⟨b, o, none⟩ ∧ b < B ∧ ∀ j u, xs[j]? = some u → w.cell? ⟨b, o + j, none⟩ = some u)

section
variable {w w' : World} {B B' sz n c : Nat} {A : Option Addr} {xs : List Value}
theorem Rd.nil_ : Rd w B sz none 0 0 [] := ⟨Nat.le_refl _, Nat.zero_le _, by simp, fun h => absurd h (by omega)⟩
theorem Rd.len (h : Rd w B 1 A n c xs) : xs.length = n := by simpa using h.2.2.1
theorem Rd.keep (h : Rd w B sz A n c xs) (k : ∀ b o, b < B → w'.cell? ⟨b, o, none⟩ = w.cell? ⟨b, o, none⟩) : Rd w' B sz A n c xs := by
  obtain ⟨h1, h2, h3, h4⟩ := h
  refine ⟨h1, h2, h3, fun hn => ?_⟩
  obtain ⟨b, o, hA, hb, hc⟩ := h4 hn
  exact ⟨b, o, hA, hb, fun j u hu => (k b _ hb).trans (hc j u hu)⟩
theorem Rd.more (h : Rd w B sz A n c xs) (hB : B ≤ B') : Rd w B' sz A n c xs := by
  obtain ⟨h1, h2, h3, h4⟩ := h
  refine ⟨h1, h2, h3, fun hn => ?_⟩
  obtain ⟨b, o, hA, hb, hc⟩ := h4 hn
  exact ⟨b, o, hA, by omega, hc⟩
theorem Rd.below (h : Rd w B sz A n c xs) (hb : Below B w w') : Rd w' B sz A n c xs := h.keep fun b o k => hb.cell (p := ⟨b, o, none⟩) k
theorem Rd.at_ {k : Nat} (h : Rd w B 1 A n c xs) (hk : k < n) : ∃ b o u, A = some ⟨b, o, none⟩ ∧ b < B ∧ xs[k]? = some u ∧ w.cell? ⟨b, o + k, none⟩ = some u := by
  obtain ⟨b, o, hA, hb, hc⟩ := h.2.2.2 (by omega)
  have hl : k < xs.length := by rw [h.len]; exact hk
  exact ⟨b, o, xs[k], hA, hb, List.getElem?_eq_getElem hl, hc k _ (List.getElem?_eq_getElem hl)⟩
end

theorem Rd.cut {w : World} {B n c k m : Nat} {A : Option Addr} {xs : List Value} (h : Rd w B 1 A n c xs) (hk : k + m ≤ n) : Rd w B 1 (A.map (·.add k)) m (c - k) ((xs.drop k).take m) := by
  have hl := h.len
  obtain ⟨h1, h2, h3, h4⟩ := h
  refine ⟨by omega, by omega, by rw [List.length_take, List.length_drop]; omega, fun hm => ?_⟩
  obtain ⟨b, o, rfl, hb, hc⟩ := h4 (by omega)
  refine ⟨b, o + k, by simp [addOff], hb, fun j u hu => ?_⟩
  rw [Nat.add_assoc]
  refine hc (k + j) u ?_
  rw [List.getElem?_take] at hu
  split at hu
  · rwa [List.getElem?_drop] at hu
  · cases hu
theorem Rd.pre {w : World} {B n c k : Nat} {A : Option Addr} {xs : List Value} (h : Rd w B 1 A n c xs) (hk : k ≤ n) : Rd w B 1 A k c (xs.take k) := by
  have hl := h.len
  obtain ⟨h1, h2, h3, h4⟩ := h
  refine ⟨by omega, h2, by rw [List.length_take]; omega, fun hm => ?_⟩
  obtain ⟨b, o, hA, hb, hc⟩ := h4 (by omega)
  refine ⟨b, o, hA, hb, fun j u hu => hc j u ?_⟩
  rw [List.getElem?_take] at hu
  split at hu
  · exact hu
  · cases hu
theorem Rd.empty {w : World} {B : Nat} {A : Option Addr} {c : Nat} (hc : c ≤ maxLen) : Rd w B 1 A 0 c [] := ⟨Nat.zero_le _, hc, rfl, fun h => absurd h (by omega)⟩
theorem Rd.setFar {w : World} {B sz n c : Nat} {A : Option Addr} {xs : List Value} (h : Rd w B sz A n c xs) {p : Addr} (hp : B ≤ p.block) (u : Value) : Rd (w.setCell p u) B sz A n c xs :=
  h.keep fun b o hb => World.cell?_setCell_other w p ⟨b, o, none⟩ u (fun e => by subst e; exact absurd hb (by simpa using hp))

/-- A literal's cells read. -/
theorem Rd.lit (w : World) {B n : Nat} {fr : Nat × Nat} (cs : Array Value) (e : TypeId) (hn : cs.size = n) (hm : n ≤ maxLen) (hB : w.heap.size < B) : Rd (w.alloc (.cells cs e fr)) B 1 (some ⟨w.heap.size, 0, none⟩) n n cs.toList :=
  ⟨Nat.le_refl _, hm, by simpa using hn, fun _ => ⟨w.heap.size, 0, rfl, hB, fun j u hu => by
    rw [cell_of_row _ w.heap.size (0 + j) cs e fr (heap_alloc_new w _)]
    simpa using hu⟩⟩

theorem undrew {B : Nat} {w w' : World} (h : Below B w.drew w') : Below B w w' := ⟨h.os, h.tape, h.output, h.size, h.block⟩

/-- The cells of bytes. -/
def u8 (b : UInt8) : Value := .int .u8 (b.toNat : Int)
def u8s (l : List UInt8) : List Value := l.map u8
theorem u8s_len (l : List UInt8) : (u8s l).length = l.length := by simp [u8s]

theorem u8s_one (l : List UInt8) : ∀ u ∈ u8s l, u.oneCell' = true := by
  intro u hu
  obtain ⟨b, _, rfl⟩ := List.mem_map.1 hu
  rfl
def str (l : List UInt8) : ByteArray := ⟨l.toArray⟩
theorem str_size (l : List UInt8) : (str l).size = l.length := rfl
theorem str_nil : ({ data := #[] } : ByteArray) = str [] := rfl
theorem str_extract (l : List UInt8) (a b : Nat) : (str l).extract a b = str ((l.drop a).take (b - a)) := by
  apply ByteArray.ext
  apply Array.ext'
  simp [str, ByteArray.data_extract]

theorem str_take (l : List UInt8) (n : Nat) : (str l).extract 0 n = str (l.take n) := by rw [str_extract]; rfl
theorem str_drop (l : List UInt8) (n : Nat) : (str l).extract n l.length = str (l.drop n) := by
  rw [str_extract, List.take_of_length_le (by simp)]
theorem setCell_by {w w' : World} {g : Nat} (h : w.grownBy w' (some g)) {p : Addr} (hp : p.block = g) (u : Value) : w.grownBy (w'.setCell p u) (some g) :=
  ⟨h.os, h.tape, h.output, by simpa [World.setCell] using h.size, fun i hi hne => (Below.heap_setCell w' p u i (fun e => hne (by rw [e, hp]))).trans (h.block i hi hne)⟩
theorem u8s_take (l : List UInt8) (k : Nat) : u8s (l.take k) = (u8s l).take k := by simp [u8s, List.map_take]
theorem u8s_drop (l : List UInt8) (k : Nat) : u8s (l.drop k) = (u8s l).drop k := by simp [u8s, List.map_drop]
theorem u8s_app (l k : List UInt8) : u8s (l ++ k) = u8s l ++ u8s k := by simp [u8s]

/-- What must be known of a slice type t, its elements of type e: their nought z, their cells, their bytes. -/
def Elem (P : Program) (t e : TypeId) (z : Value) (sz bt : Nat) : Prop :=
  P.underlying t = some (.slice e) ∧ (∃ i : TypeInfo, P.info? e = some i ∧ i.zero = some z ∧ i.size = sz ∧ i.bytes = bt) ∧ z.cells.size = sz ∧ 0 < sz
theorem Elem.mk_ {P : Program} {t e : TypeId} {z : Value} {sz bt : Nat} (h1 : P.underlying t = some (.slice e)) (h2 : (P.info? e).map (fun i => (i.zero, i.size, i.bytes)) = some (some z, sz, bt)) (h3 : z.cells.size = sz) (h4 : 0 < sz) : Elem P t e z sz bt := by
  refine ⟨h1, ?_, h3, h4⟩
  cases hi : P.info? e with
  | none => rw [hi] at h2; cases h2
  | some i =>
    rw [hi] at h2
    simp only [Option.map_some, Option.some.injEq, Prod.mk.injEq] at h2
    exact ⟨i, rfl, h2.1, h2.2.1, h2.2.2⟩

section
variable {P : Program} {w : World}
theorem Rd.src {B sz n c : Nat} {A : Option Addr} {xs : List Value} {tx e' : TypeId} (h : Rd w B sz A n c xs) (hk : P.underlying tx = some (.slice e')) (h1 : ∀ u ∈ xs, u.oneCell' = true) : Src P sz tx (.slice A n c) n xs w := by
  obtain ⟨_, _, hl, hc⟩ := h
  rcases Nat.eq_zero_or_pos n with h0 | h0
  · subst h0
    obtain rfl : xs = [] := List.eq_nil_of_length_eq_zero (by simpa using hl)
    cases A with
    | none => exact Src.ofNil w hk c
    | some a => exact Src.ofSlice w hk a 0 c [] (by simp) (fun j u hu => by simp at hu) (fun _ hu => by cases hu)
  · obtain ⟨b, o, rfl, _, hcell⟩ := hc h0
    exact Src.ofSlice w hk _ n c xs hl (fun j u hu => by rw [addOff]; exact hcell j u hu) h1

/-- append onto a row of one's own, of whatever source. -/
theorem run_app {base m n sz bt : Nat} {t tx ty e : TypeId} {z v x : Value} {xs news : List Value} (hT : Elem P t e z sz bt) (hown : w.ownsRow base e sz v n xs) (hs : Src P sz tx x m news w)
    (h63 : n + m ≤ maxLen) (hbytes : (n + m) * bt ≤ 140737488355328) (hbase : base ≤ w.heap.size) :
    ∃ v' w', (Builtin.append_ #[t, tx] ty #[v, x]).run P w = .ok v' w' ∧ w'.ownsRow base e sz v' (n + m) (xs ++ news) ∧ w.grownBy w' v.ownBlock ∧
      (v'.ownBlock = v.ownBlock ∨ v'.ownBlock = some w.heap.size) := by
  obtain ⟨ht, ⟨i, hi, hz, rfl, rfl⟩, hzs, hsz⟩ := hT
  have hlen : (xs ++ news).length = (n + m) * i.size := by rw [List.length_append, hown.1, hs.newsLen, Nat.add_mul]
  have hl := hs.newsLen
  have h63n : n + m ≤ 9223372036854775807 := by unfold maxLen at h63; omega
  have h63i : ((n + m : Nat) : Int) ≤ 9223372036854775807 := by omega
  have grown : ∀ (old : Nat), old < n + m → ∀ (row : Option Nat),
      (w.drew.alloc (.cells ((xs ++ news).toArray ++ Builtin.zeroCells z.cells (grownCap w (n + m) old e - (n + m))) e)).ownsRow base e i.size
        (.slice (some ⟨w.heap.size, 0, none⟩) (n + m) (grownCap w (n + m) old e)) (n + m) (xs ++ news) ∧
      w.grownBy (w.drew.alloc (.cells ((xs ++ news).toArray ++ Builtin.zeroCells z.cells (grownCap w (n + m) old e - (n + m))) e)) row := by
    intro old ho row
    have hge := grownCap_ge w (n + m) old e
    have hcm : grownCap w (n + m) old e ≤ maxLen := grownCap_le_maxLen w (n + m) old e h63
    refine ⟨⟨hlen, .inr ⟨w.heap.size, _, _, rfl, hbase, heap_alloc_new w.drew _, hge, hcm, ?_, ?_⟩⟩, ⟨rfl, rfl, rfl, by simp, fun k hk _ => heap_alloc_old w.drew _ hk⟩⟩
    · simp only [Array.size_append, List.size_toArray, size_zeroCells, hzs, hlen, ← Nat.add_mul]
      congr 1
      omega
    · simp only [Array.toList_append]
      rw [← hlen]
      exact List.take_left
  rcases hown.2 with ⟨rfl, rfl⟩ | ⟨g, cap, cur, rfl, hbg, hg, hnc, hcm, hcs, htake⟩
  · obtain rfl : xs = [] := List.eq_nil_of_length_eq_zero (by simpa using hown.1)
    by_cases hm : m = 0
    · subst hm
      obtain rfl : news = [] := List.eq_nil_of_length_eq_zero (by simpa using hl)
      refine ⟨.slice none 0 0, w, ?_, World.ownsRow_nil w base e i.size, ⟨rfl, rfl, rfl, Nat.le_refl _, fun _ _ _ => rfl⟩, Or.inl rfl⟩
      have hc := hs.cells
      rcases hs.kind with ⟨e', hk⟩ | hk <;> simp [Builtin.append_, run_underlying ht, run_underlying hk, sizeOf, typeInfo, hi, hs.len, hc]
    · have hold : (Builtin.firstCells i.size 0 (.slice none 0 0)).run P w.drew = .ok ([] : List Value).toArray w.drew := run_firstCells_none w.drew i.size 0 0 0
      have hr := run_append_grow_src (P := P) w t tx ty e i z ht hi hz none 0 0 [] hold x m news hs (by omega) (by simpa using h63i) (growslice_fits (by omega) (by simpa using hbytes))
      have hgr := grown 0 (by omega) (Value.ownBlock (.slice none 0 0))
      simp only [Nat.zero_add, List.nil_append] at hgr hr ⊢
      exact ⟨_, _, hr, hgr.1, hgr.2, Or.inr rfl⟩
  · by_cases hroom : n + m ≤ cap
    · have hfit : n * i.size + news.length ≤ cur.size := by rw [hl, hcs, ← Nat.add_mul]; exact Nat.mul_le_mul_right _ hroom
      have hst := run_storeCells_at P g (n * i.size) e news 0 cur w hg (by simpa using hfit) hs.one
      simp only [Nat.add_zero] at hst
      have hr : (Builtin.append_ #[t, tx] ty #[.slice (some ⟨g, 0, none⟩) n cap, x]).run P w =
          .ok (.slice (some ⟨g, 0, none⟩) (n + m) cap) (w.setRow g (cur.toList.take (n * i.size) ++ news ++ cur.toList.drop (n * i.size + news.length)).toArray) := by
        rcases hs.kind with ⟨e', hk⟩ | hk <;> simp [Builtin.append_, run_underlying ht, run_underlying hk, sizeOf, typeInfo, hi, hs.len, hroom, hs.cells, Addr.add_lit, hst]
      refine ⟨_, _, hr, ⟨hlen, .inr ⟨g, cap, _, rfl, hbg, setRow_heap w g cur _ e _ hg, hroom, hcm, ?_, ?_⟩⟩, ⟨rfl, rfl, rfl, by simp, fun k _ hk => setRow_other w g k _ (fun e => hk (by simp [Value.ownBlock, e]))⟩, Or.inl rfl⟩
      · simp only [List.size_toArray, List.length_append, List.length_take, List.length_drop, Array.length_toList]
        omega
      · rw [htake, ← hlen]
        exact List.take_left
    · have holds : ∀ j u, xs[j]? = some u → w.drew.cell? ((⟨g, 0, none⟩ : Addr).add j) = some u := fun j u hu => hown.cells (g := g) rfl j u hu
      have hr := run_append_grow_src (P := P) w t tx ty e i z ht hi hz (some ⟨g, 0, none⟩) n cap xs (run_firstCells_some w.drew i.size n _ n cap xs hown.1 holds) x m news hs (by omega) h63i (growslice_fits (by omega) hbytes)
      have hgr := grown cap (by omega) (Value.ownBlock (.slice (some ⟨g, 0, none⟩) n cap))
      exact ⟨_, _, hr, hgr.1, hgr.2, Or.inr rfl⟩

/-- append at its operation, whatever is appended. -/
theorem wpL_app {ops : Array Oper} {rest : List Oper} {o : Oper} {a : Act} {Q : Exit → Act → World → Prop} (hgd : o.guard = none) (s x : Operand) (t tx : TypeId)
    (ho : o.op = .call { callee := .builtin .append, args := #[s, x], argTypes := #[t, tx] })
    {base m n sz bt : Nat} {e : TypeId} {z v y : Value} {xs news : List Value} (hT : Elem P t e z sz bt) (hs : a.eval s = v) (hx : a.eval x = y) (hown : w.ownsRow base e sz v n xs) (hsrc : Src P sz tx y m news w)
    (h63 : n + m ≤ maxLen) (hbytes : (n + m) * bt ≤ 140737488355328) (hbase : base ≤ w.heap.size)
    (h : ∀ v' w', w'.ownsRow base e sz v' (n + m) (xs ++ news) → w.grownBy w' v.ownBlock → (v'.ownBlock = v.ownBlock ∨ v'.ownBlock = some w.heap.size) → wpList P ops Q rest (a.put o.dst v') w') :
    wpList P ops Q (o :: rest) a w := by
  refine wpList_plain hgd fun K hK => ?_
  obtain ⟨v', w', hr, h1, h2, h3⟩ := run_app (ty := o.type) hT hown hsrc h63 hbytes hbase
  unfold Oper.wp execOp
  simp only [ho, resolve, invoke, builtin, Sem.run_bind, Sem.run_pure, Result.andThen_ok, List.map_toArray, List.map_cons, List.map_nil, hs, hx, hr]
  exact hK _ _ (h v' w' h1 h2 h3)

/-- make([]T, 0, c), and make([]T, c): a row of one's own. -/
theorem wpL_make0 {ops : Array Oper} {rest : List Oper} {o : Oper} {a : Act} {Q : Exit → Act → World → Prop} (hgd : o.guard = none) (l c : Operand) (t : TypeId) (ho : o.op = Op.makeSlice t l c)
    {base sz bt : Nat} {e : TypeId} {z : Value} (hT : Elem P t e z sz bt) {kl kc : IntKind} {C : Int} (n : Nat) (hl : a.eval l = .int kl 0) (hc : a.eval c = .int kc C) (hC : C = (n : Int)) (hb : bt * n ≤ 281474976710656) (h63 : n ≤ maxLen) (hbase : base ≤ w.heap.size)
    (h : ∀ w', w'.ownsRow base e sz (.slice (some ⟨w.heap.size, 0, none⟩) 0 n) 0 [] → w.grownBy w' none → wpList P ops Q rest (a.put o.dst (.slice (some ⟨w.heap.size, 0, none⟩) 0 n)) w') : wpList P ops Q (o :: rest) a w := by
  obtain ⟨ht, ⟨i, hi, hz, rfl, rfl⟩, _, _⟩ := hT
  obtain ⟨w', hrun, r1, r2⟩ := run_make_own (P := P) w base t e i z i.size ht hi hz rfl kl kc n hb h63 hbase
  refine wpList_plain hgd fun K hK => ?_
  subst hC
  unfold Oper.wp
  simp [execOp, ho, hl, hc, hrun, Result.andThen]
  exact hK _ _ (h w' r1 r2)
end


/-- What a slice of one's own becomes by appending: its row, or a new one; nothing else turns. -/
def Ext (w : World) (v : Value) (w' : World) (v' : Value) : Prop := w.grownBy w' v.ownBlock ∧ (v'.ownBlock = v.ownBlock ∨ ∀ k, v'.ownBlock = some k → w.heap.size ≤ k)
section
variable {w w1 w2 : World} {v v1 v2 : Value}
theorem Ext.refl (w : World) (v : Value) : Ext w v w v := ⟨World.grownBy.refl _ _, .inl rfl⟩
theorem grownBy_trans {row row' : Option Nat} (h : w.grownBy w1 row) (k : w1.grownBy w2 row') (hr : row' = row ∨ ∀ g, row' = some g → w.heap.size ≤ g) : w.grownBy w2 row := by
  refine ⟨k.os.trans h.os, k.tape.trans h.tape, k.output.trans h.output, Nat.le_trans h.size k.size, fun i hi hne => ?_⟩
  refine (k.block i (Nat.lt_of_lt_of_le hi h.size) ?_).trans (h.block i hi hne)
  rcases hr with rfl | hr
  · exact hne
  · intro e
    have := hr i e.symm
    omega
theorem Ext.trans (h : Ext w v w1 v1) (k : Ext w1 v1 w2 v2) : Ext w v w2 v2 := by
  refine ⟨grownBy_trans h.1 k.1 h.2, ?_⟩
  rcases k.2 with k2 | k2
  · rw [k2]; exact h.2
  · exact .inr fun g hg => Nat.le_trans h.1.size (k2 g hg)
theorem Ext.app (hg : w.grownBy w1 v.ownBlock) (ha : v1.ownBlock = v.ownBlock ∨ v1.ownBlock = some w.heap.size) : Ext w v w1 v1 := by
  refine ⟨hg, ?_⟩
  rcases ha with ha | ha
  · exact .inl ha
  · refine .inr fun k hk => ?_
    rw [ha] at hk
    cases hk
    exact Nat.le_refl _
theorem Ext.alloc (h : Ext w v w1 v1) (o : Obj) : Ext w v (w1.alloc o) v1 := ⟨grownBy_trans h.1 (World.grownBy_alloc w1 o none) (.inr fun _ e => by cases e), h.2⟩
theorem Ext.drew (h : Ext w v w1 v1) : Ext w v w1.drew v1 := ⟨⟨h.1.os, h.1.tape, h.1.output, h.1.size, h.1.block⟩, h.2⟩
theorem Ext.below {base B n sz : Nat} {e : TypeId} {xs : List Value} (h : Ext w v w1 v1) (ho : w.ownsRow base e sz v n xs) (hB : B ≤ w.heap.size) (hb : B ≤ base) : Below B w w1 :=
  (Below.refl B w).grown h.1 hB fun k hk => Nat.le_trans hb (ho.lt k hk).1
end

/-- A literal's cells, as a source. -/
theorem Src.lit {P : Program} {w : World} {sz n : Nat} {tx e e' : TypeId} (hk : P.underlying tx = some (.slice e')) (cs : Array Value) (hn : cs.size = n * sz) (h1 : ∀ u ∈ cs.toList, u.oneCell' = true) :
    Src P sz tx (.slice (some ⟨w.heap.size, 0, none⟩) n n) n cs.toList (w.alloc (.cells cs e)) :=
  Src.ofSlice _ hk _ n n cs.toList (by simpa using hn) (fun j u hu => by
    rw [addOff, cell_of_row _ w.heap.size (0 + j) cs e (0, 0) (heap_alloc_new w _)]
    simpa using hu) h1

/-- The lowest k bytes of x, the lowest first. -/
def le : Nat → Nat → List UInt8
  | 0, _ => []
  | k + 1, x => UInt8.ofNat (x % 256) :: le k (x / 256)
theorem le_len (k x : Nat) : (le k x).length = k := by
  induction k generalizing x with
  | zero => rfl
  | succ k ih => simp [le, ih]
theorem le_snoc (k x : Nat) : le (k + 1) x = le k x ++ [UInt8.ofNat (x / 256 ^ k % 256)] := by
  induction k generalizing x with
  | zero => simp [le]
  | succ k ih =>
    rw [le, ih (x / 256), le]
    simp [Nat.div_div_eq_div_mul, Nat.pow_succ, Nat.mul_comm]

theorem le_snoc' (i x : Nat) : u8s (le i x) ++ [Value.int .u8 ((x : Int) / 256 ^ i % 256)] = u8s (le (i + 1) x) := by
  have h : UInt8.ofNat (x / 256 ^ i % 256) = UInt8.ofNat (x / 256 ^ i % 256) := rfl
  rw [le_snoc, u8s_app]
  simp [u8s, u8]


/-- The cells of numbers of kind uint64. -/
def u64s (l : List Nat) : List Value := l.map fun (x : Nat) => Value.int .u64 (x : Int)
theorem u64s_get (l : List Nat) (i : Nat) (u : Value) (h : (u64s l)[i]? = some u) : ∃ x, l[i]? = some x ∧ u = .int .u64 (x : Int) := by
  simp only [u64s, List.getElem?_map, Option.map_eq_some_iff] at h
  obtain ⟨x, hx, rfl⟩ := h
  exact ⟨x, hx, rfl⟩
theorem u8s_get (l : List UInt8) (i : Nat) (u : Value) (h : (u8s l)[i]? = some u) : ∃ x, l[i]? = some x ∧ u = .int .u8 (x.toNat : Int) := by
  simp only [u8s, List.getElem?_map, Option.map_eq_some_iff] at h
  obtain ⟨x, hx, rfl⟩ := h
  exact ⟨x, hx, rfl⟩
def puts (k : Nat) (l : List Nat) : List UInt8 := l.flatMap (le k)
theorem puts_len (k : Nat) (l : List Nat) : (puts k l).length = l.length * k := by
  induction l with
  | nil => simp [puts]
  | cons x l ih => simp only [puts, List.flatMap_cons, List.length_append, le_len, List.length_cons] at ih ⊢; rw [ih, Nat.add_mul]; omega
theorem puts_take (k : Nat) (l : List Nat) (i x : Nat) (h : l[i]? = some x) : puts k (l.take (i + 1)) = puts k (l.take i) ++ le k x := by
  obtain ⟨hi, rfl⟩ := List.getElem?_eq_some_iff.1 h
  unfold puts
  rw [List.take_succ_eq_append_getElem hi, List.flatMap_append]
  simp

theorem ownsRow_rd {w : World} {base sz n c : Nat} {e : TypeId} {A : Option Addr} {xs : List Value} (h : w.ownsRow base e sz (.slice A n c) n xs) : Rd w w.heap.size sz A n c xs := by
  obtain ⟨hl, h2⟩ := h
  rcases h2 with ⟨hv, rfl⟩ | ⟨g, cap, cur, hv, _, hg, hnc, hcm, _, htake⟩
  · cases hv
    exact ⟨Nat.le_refl _, Nat.zero_le _, hl, fun h => absurd h (by omega)⟩
  · cases hv
    refine ⟨hnc, hcm, hl, fun _ => ⟨g, 0, rfl, (Array.getElem?_eq_some_iff.1 hg).1, fun j u hu => ?_⟩⟩
    rw [cell_of_row w g (0 + j) cur e (0, 0) hg]
    rw [← htake, List.getElem?_take] at hu
    split at hu
    · simpa using hu
    · cases hu
/-- What one owns reads the same while another block is written. -/
theorem ownsRow_far {w w' : World} {base sz n c g : Nat} {e : TypeId} {A : Option Addr} {xs : List Value} (h : w.ownsRow base e sz (.slice A n c) n xs) (hg : w.grownBy w' (some g)) (hb : ∀ k, Value.ownBlock (.slice A n c) = some k → k ≠ g) : Rd w' w'.heap.size sz A n c xs := by
  refine ownsRow_rd (h.kept hg ?_)
  cases hk : Value.ownBlock (.slice A n c) with
  | none => exact .inl rfl
  | some k => exact .inr (fun e => hb k hk (Option.some.inj e))
theorem ownsRow_form {w : World} {base sz n : Nat} {e : TypeId} {v : Value} {xs : List Value} (h : w.ownsRow base e sz v n xs) : ∃ A c, v = .slice A n c := by
  rcases h.2 with ⟨rfl, rfl⟩ | ⟨g, cap, cur, rfl, _⟩
  · exact ⟨_, _, rfl⟩
  · exact ⟨_, _, rfl⟩
/-- What one owns from a higher block on, one owns from a lower one on. -/
theorem ownsRow_low {w : World} {base base' sz n : Nat} {e : TypeId} {v : Value} {xs : List Value} (h : w.ownsRow base e sz v n xs) (hb : base' ≤ base) : w.ownsRow base' e sz v n xs := by
  obtain ⟨hl, h2⟩ := h
  rcases h2 with h2 | ⟨g, cap, cur, hv, hg, r⟩
  · exact ⟨hl, .inl h2⟩
  · exact ⟨hl, .inr ⟨g, cap, cur, hv, Nat.le_trans hb hg, r⟩⟩


section
variable {P : Program} {w : World}
/-- copy into a row of one's own of no more than it holds. -/
theorem run_cp {base m n c sz bt : Nat} {t tx ty e : TypeId} {z x : Value} {A : Option Addr} {xs news : List Value} (hT : Elem P t e z sz bt) (hown : w.ownsRow base e sz (.slice A n c) n xs) (hs : Src P sz tx x m news w) (hm : m ≤ n) :
    ∃ w', (Builtin.copy_ #[t, tx] ty #[.slice A n c, x]).run P w = .ok (goInt m) w' ∧ w'.ownsRow base e sz (.slice A n c) n (news ++ xs.drop (m * sz)) ∧ w.grownBy w' (Value.ownBlock (.slice A n c)) := by
  obtain ⟨ht, ⟨i, hi, hz, rfl, rfl⟩, hzs, hsz⟩ := hT
  have hl := hs.newsLen
  have hmin : Nat.min m n = m := Nat.min_eq_left hm
  obtain ⟨hx, h2⟩ := hown
  have hlen : (news ++ xs.drop (m * i.size)).length = n * i.size := by
    rw [List.length_append, List.length_drop, hl, hx]
    have := Nat.mul_le_mul_right i.size hm
    omega
  have hmn := Nat.mul_le_mul_right i.size hm
  rcases h2 with ⟨hv, rfl⟩ | ⟨g, cap, cur, hv, hbg, hg, hnc, hcm, hcs, htake⟩
  · cases hv
    obtain rfl : m = 0 := by omega
    obtain rfl : news = [] := List.eq_nil_of_length_eq_zero (by simpa using hl)
    refine ⟨w, ?_, ⟨hlen, .inl ⟨rfl, rfl⟩⟩, World.grownBy.refl _ _⟩
    have hc := hs.cells
    simp [Builtin.copy_, run_underlying ht, sizeOf, typeInfo, hi, hs.len, hc]
  · cases hv
    have hcn := Nat.mul_le_mul_right i.size hnc
    have hst := run_storeCells_at P g 0 e news 0 cur w hg (by rw [hl, hcs]; omega) hs.one
    simp only [Nat.add_zero, Nat.zero_add, List.take_zero, List.nil_append] at hst
    have hr : (Builtin.copy_ #[t, tx] ty #[.slice (some ⟨g, 0, none⟩) n c, x]).run P w = .ok (goInt m) (w.setRow g (news ++ cur.toList.drop news.length).toArray) := by
      simp [Builtin.copy_, run_underlying ht, sizeOf, typeInfo, hi, hs.len, hmin, hs.cells, hst]
    refine ⟨_, hr, ⟨hlen, .inr ⟨g, c, _, rfl, hbg, setRow_heap w g cur _ e _ hg, hnc, hcm, ?_, ?_⟩⟩, ⟨rfl, rfl, rfl, by simp, fun k _ hk => setRow_other w g k _ (fun e => hk (by simp [Value.ownBlock, e]))⟩⟩
    · simp only [List.size_toArray, List.length_append, List.length_drop, Array.length_toList]
      omega
    · rw [List.take_append, List.take_of_length_le (by omega : news.length ≤ n * i.size), ← htake, hl, List.drop_take]

theorem wpL_cp {ops : Array Oper} {rest : List Oper} {o : Oper} {a : Act} {Q : Exit → Act → World → Prop} (hgd : o.guard = none) (s x : Operand) (t tx : TypeId)
    (ho : o.op = .call { callee := .builtin .copy, args := #[s, x], argTypes := #[t, tx] })
    {base m n c sz bt : Nat} {e : TypeId} {z y : Value} {A : Option Addr} {xs news : List Value} (hT : Elem P t e z sz bt) (hs : a.eval s = .slice A n c) (hx : a.eval x = y) (hown : w.ownsRow base e sz (.slice A n c) n xs) (hsrc : Src P sz tx y m news w) (hm : m ≤ n)
    (h : ∀ w', w'.ownsRow base e sz (.slice A n c) n (news ++ xs.drop (m * sz)) → w.grownBy w' (Value.ownBlock (.slice A n c)) → wpList P ops Q rest (a.put o.dst (goInt m)) w') :
    wpList P ops Q (o :: rest) a w := by
  refine wpList_plain hgd fun K hK => ?_
  obtain ⟨w', hr, h1, h2⟩ := run_cp (ty := o.type) hT hown hsrc hm
  unfold Oper.wp execOp
  simp only [ho, resolve, invoke, builtin, Sem.run_bind, Sem.run_pure, Result.andThen_ok, List.map_toArray, List.map_cons, List.map_nil, hs, hx, hr]
  exact hK _ _ (h w' h1 h2)

theorem wpL_make {ops : Array Oper} {rest : List Oper} {o : Oper} {a : Act} {Q : Exit → Act → World → Prop} (hgd : o.guard = none) (l c : Operand) (t : TypeId) (ho : o.op = Op.makeSlice t l c)
    {base sz bt : Nat} {e : TypeId} {z : Value} (hT : Elem P t e z sz bt) {kl kc : IntKind} {L C : Int} (n : Nat) (hl : a.eval l = .int kl L) (hc : a.eval c = .int kc C) (hL : L = (n : Int)) (hC : C = (n : Int)) (hb : bt * n ≤ 281474976710656) (h63 : n ≤ maxLen) (hbase : base ≤ w.heap.size)
    (h : ∀ w', w'.ownsRow base e sz (.slice (some ⟨w.heap.size, 0, none⟩) n n) n (madeCells z.cells (n * sz)).toList → w.grownBy w' none → wpList P ops Q rest (a.put o.dst (.slice (some ⟨w.heap.size, 0, none⟩) n n)) w') : wpList P ops Q (o :: rest) a w := by
  obtain ⟨ht, ⟨i, hi, hz, rfl, rfl⟩, _, _⟩ := hT
  obtain ⟨w', hrun, r1, r2⟩ := run_make_full (P := P) w base t e i z i.size ht hi hz rfl kl kc n hb h63 hbase
  refine wpList_plain hgd fun K hK => ?_
  subst hL
  subst hC
  unfold Oper.wp
  simp [execOp, ho, hl, hc, hrun, Result.andThen]
  exact hK _ _ (h w' r1 r2)

theorem run_str {t tx e : TypeId} (ht : P.underlying t = some (.slice e)) (he : P.underlying e = some (.int .u8)) (hd : P.underlying tx = some .string)
    {B n c : Nat} {A : Option Addr} {l : List UInt8} (hr : Rd w B 1 A n c (u8s l)) : (convert t tx (.slice A n c)).run P w = .ok (.string (str l)) w := by
  obtain ⟨_, _, hl, hc⟩ := hr
  rcases Nat.eq_zero_or_pos n with h0 | h0
  · subst h0
    obtain rfl : l = [] := List.eq_nil_of_length_eq_zero (by simpa [u8s] using hl)
    cases A with
    | none => exact run_convert_bytes_nil w t e ht he 0 c tx hd
    | some p =>
      rw [run_convert_bytes_string w t tx e _ 0 c ht he hd]
      exact run_bytesToString w p 0 c [] (by rfl)
  · obtain ⟨b, o', rfl, _, hcell⟩ := hc h0
    have := run_convert_bytes_arg (P := P) w t e ht he b o' n c (l.map fun b => (b.toNat : Int)) (by simpa [u8s] using hl) (fun i hi => by
      have hil : i < l.length := by simpa [u8s] using (hl ▸ (by omega) : i < (u8s l).length)
      rw [hcell i (u8 l[i]) (by simp [u8s, hil])]
      simp [List.getD, hil, u8]) tx hd
    rw [this]
    congr 2
    simp only [strOfNums, str, List.map_map]
    rw [List.map_congr_left (g := id) (fun b _ => by simp), List.map_id]
/-- A conversion of bytes to a string. -/
theorem wpL_str {ops : Array Oper} {rest : List Oper} {o : Oper} {a : Act} {Q : Exit → Act → World → Prop} (hgd : o.guard = none) (x : Operand) (t tx : TypeId) (ho : o.op = .convert t tx x)
    {e : TypeId} (ht : P.underlying t = some (.slice e)) (he : P.underlying e = some (.int .u8)) (hd : P.underlying tx = some .string)
    {B n c : Nat} {A : Option Addr} {l : List UInt8} (hx : a.eval x = .slice A n c) (hr : Rd w B 1 A n c (u8s l))
    (h : wpList P ops Q rest (a.put o.dst (.string (str l))) w) : wpList P ops Q (o :: rest) a w := by
  have hrun := run_str ht he hd hr
  refine wpList_plain hgd fun K hK => ?_
  unfold Oper.wp
  simp [execOp, ho, hx, hrun, Result.andThen]
  exact hK _ _ h
end

end Go.Proofs.Ytlpckhjmbfeegaa
