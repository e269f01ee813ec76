/- A window in memory; Who, Nodes, top, Clone. Clone, Ack and New of a window. -/
import Derived.Test.YtjhakplaffgkpaaDoorWmapM
import Derived.Test.YtjhakplaffgkpaaDoorQcM
import Derived.Deep.DeepCutAuto
import Derived.Deep.CutBlock
import Derived.Shelf.SlMaps.Clone
namespace Go.Proofs.YtjhakplaffgkpaaDoor
open Go.RowKit
set_option maxRecDepth 20000

/-- A window: how many nodes, all up to which is committed, who has what. -/
structure Wv where
  n : Nat
  low : Nat
  f : Nat → Option Nat
def Wv.all (t : Wv) : Nat := 2 ^ t.n - 1
def Wv.who (t : Wv) (x : Nat) : Nat := (t.f x).getD 0
def Wv.err (t : Wv) (node : Int) (x : Nat) : Int := if Qu.inB t.all node = true then (if x ≤ t.low then 52 else if t.low + 192 < x then 30 else 0) else 2
def Wv.put (t : Wv) (node : Int) (x : Nat) : Wv := { t with f := fun y => if y = x then some (Qu.with1 (t.who x) node) else t.f y }
def Wv.ack (t : Wv) (node : Int) (x : Nat) : Wv := if t.err node x = 0 then t.put node x else t
structure Wv.Ok (t : Wv) : Prop where
  n1 : 1 ≤ t.n
  n7 : t.n ≤ 7
  lo : t.low ≤ 4611686018427387584
  keys : ∀ x s, t.f x = some s → t.low < x ∧ x ≤ t.low + 192 ∧ s < 18446744073709551616
theorem all_lt : ∀ n, n ≤ 7 → 2 ^ n - 1 < 128 := by decide
theorem Wv.Ok.all_lt {t : Wv} (h : t.Ok) : t.all < 18446744073709551616 := Nat.lt_trans (Go.Proofs.YtjhakplaffgkpaaDoor.all_lt t.n h.n7) (by decide)
theorem Wv.Ok.who_lt {t : Wv} (h : t.Ok) (x : Nat) : t.who x < 18446744073709551616 := by
  unfold Wv.who
  cases hf : t.f x with
  | none => decide
  | some s => exact (h.keys x s hf).2.2
theorem Wv.Ok.put {t : Wv} (h : t.Ok) (node : Int) (x : Nat) (h1 : t.low < x) (h2 : x ≤ t.low + 192) : (t.put node x).Ok := by
  refine ⟨h.n1, h.n7, h.lo, fun y s hy => ?_⟩
  unfold Wv.put at hy
  dsimp only at hy
  split at hy
  · next e => subst e; exact ⟨h1, h2, by cases hy; exact Qu.with1_lt node (h.who_lt y)⟩
  · exact h.keys y s hy
theorem Wv.Ok.ack {t : Wv} (h : t.Ok) (node : Int) (x : Nat) : (t.ack node x).Ok := by
  unfold Wv.ack
  split
  · next e =>
    unfold Wv.err at e
    split at e
    · split at e
      · cases e
      · split at e
        · cases e
        · exact h.put node x (by omega) (by omega)
    · cases e
  · exact h

theorem zw (w : World) : (zeroValue 22).run Tryd.prog w = .ok (.int .u64 0) w := by kernel_rfl
/-- A window in memory: its row g, its map b, of at most m keys. -/
structure Wn (w : World) (g b m : Nat) (t : Wv) : Prop where
  row : w.heap[g]? = some (.cells #[.int .u64 ((t.all : Nat) : Int), .int .u64 (t.low : Int), .map (some b)] 52 (0, 0))
  map : MapW Tryd.prog 22 w b m t.f
  ok : t.Ok
section
variable {w w' : World} {g b m : Nat} {t : Wv}
theorem Wn.lt (h : Wn w g b m t) : g < w.heap.size := (Array.getElem?_eq_some_iff.1 h.row).1
theorem Wn.c0 (h : Wn w g b m t) : w.cell? ⟨g, 0, none⟩ = some (.int .u64 ((t.all : Nat) : Int)) := cell_of_row w g 0 _ _ _ h.row
theorem Wn.c1 (h : Wn w g b m t) : w.cell? ⟨g, 1, none⟩ = some (.int .u64 (t.low : Int)) := cell_of_row w g 1 _ _ _ h.row
theorem Wn.c2 (h : Wn w g b m t) : w.cell? ⟨g, 2, none⟩ = some (.map (some b)) := cell_of_row w g 2 _ _ _ h.row
theorem Wn.fr (h : Wn w g b m t) (i : Nat) : w.frozen? ⟨g, i, none⟩ = false := frozen_of_row w g i _ _ h.row
theorem Wn.ne (h : Wn w g b m t) : g ≠ b := by
  intro e
  obtain ⟨es, c, hb⟩ := h.map.obj
  rw [← e, h.row] at hb
  cases hb
theorem Wn.keeps {F : Nat → Prop} (h : Wn w g b m t) (k : Keeps F w w') (h1 : ¬ F g) (h2 : ¬ F b) : Wn w' g b m t :=
  ⟨k.row h.row h1, h.map.same (k.block b h.map.lt h2), h.ok⟩
theorem Wn.below (h : Wn w g b m t) (hb : Below w.heap.size w w') : Wn w' g b m t := h.keeps (F := fun _ => False) (Keeps.of_below hb) (fun h => h) (fun h => h)
theorem Wn.drewN (h : Wn w g b m t) (k : Nat) : Wn (w.drewN k) g b m t := h.keeps ((Keeps.refl (fun _ => False) w).drewN k) (fun h => h) (fun h => h)
theorem Wn.mono {m' : Nat} (h : Wn w g b m t) (hm : m ≤ m') : Wn w g b m' t := ⟨h.row, h.map.mono hm, h.ok⟩
theorem Wn.look (h : Wn w g b m t) (x : Nat) (hx : x < 18446744073709551616) : (Instr.lookup 50 (.map (some b)) (.int .u64 (x : Int)) false).run Tryd.prog w = .ok (Value.int .u64 ((t.who x : Nat) : Int)) w :=
  (h.map.look (k := 22) (e := 22) (t := 50) Tryd.underlying22 Tryd.underlying50 (zw w) x hx).1

theorem wtop_any (h : Wn w g b m t) : Calls Tryd.prog 26 #[.pointer (some ⟨g, 0, none⟩)] w fun e w' => e = .returned (.int .u64 ((t.low + 192 : Nat) : Int)) ∧ w = w' := by
  have c1 := h.c1
  have hlo := h.ok.lo
  have e1 : IntKind.u64.wrap ((t.low : Int) + 192) = ((t.low + 192 : Nat) : Int) := by rw [Qu.u64w _ (by omega) (by omega)]; rfl
  clear h hlo
  go_enter Tryd.func26, Tryd.ntmps26
  go_wp2
  go_ret
  exact ⟨rfl, rfl⟩
theorem who_nil (x : Int) (w : World) : Calls Tryd.prog 13 #[.pointer none, .int .u64 x] w fun e w' => e = .returned (.int .u64 0) ∧ w = w' := by
  go_enter Tryd.func13, Tryd.ntmps13
  go_wp2
  go_ret
  exact ⟨rfl, rfl⟩
theorem who_any (h : Wn w g b m t) (x : Nat) (hx : x < 18446744073709551616) : Calls Tryd.prog 13 #[.pointer (some ⟨g, 0, none⟩), .int .u64 (x : Int)] w fun e w' => e = .returned (.int .u64 ((t.who x : Nat) : Int)) ∧ w = w' := by
  have c2 := h.c2
  have hl := h.look x hx
  generalize t.who x = y at *
  clear h hx
  go_enter Tryd.func13, Tryd.ntmps13
  go_wp2
  go_ret
  exact ⟨rfl, rfl⟩
theorem pop_all : ∀ n, n ≤ 7 → Qu.pop 64 (2 ^ n - 1) = n := by decide
theorem nodes_nil (w : World) : Calls Tryd.prog 20 #[.pointer none] w fun e w' => e = .returned (.int .i64 0) ∧ w = w' := by
  go_enter Tryd.func20, Tryd.ntmps20
  go_wp2
  go_ret
  exact ⟨rfl, rfl⟩
theorem nodes_any (h : Wn w g b m t) : Calls Tryd.prog 20 #[.pointer (some ⟨g, 0, none⟩)] w fun e w' => e = .returned (.int .i64 (t.n : Int)) ∧ w = w' := by
  have c0 := h.c0
  have hs := fun W => Qu.size_any t.all W h.ok.all_lt
  rw [show Qu.pop 64 t.all = t.n from pop_all t.n h.ok.n7] at hs
  clear h
  go_enter Tryd.func20, Tryd.ntmps20
  go_wp2_with (go_at_call 35; (with_reducible refine (hs _).mono ?_); rintro e w3 ⟨rfl, rfl⟩)
  go_ret
  exact ⟨rfl, rfl⟩
end

set_option maxHeartbeats 2000000 in
theorem wclone_any {w : World} {b : Nat} {es : Array MapEntry} {clock : Nat} (hb : w.heap[b]? = some (.map es clock)) :
    Calls Tryd.prog 24 #[.map (some b)] w fun e w' => e = .returned (.map (some w.heap.size)) ∧ w' = w.alloc (.map es clock) := by
  have hq := fun w => run_eql_map_nil_sl (P := Tryd.prog) w 50 _ _ (some b) Tryd.underlying50
  go_enter Tryd.func24, Tryd.ntmps24
  go_wp2
  rw [run_callFunc_extern Tryd.func39 (by kernel_rfl) (by kernel_rfl) (by kernel_rfl) (e := Extern.MapsClone.clone) (by kernel_rfl), run_maps_clone_sl w _ hb]
  simp only [Result.andThen]
  rw [Oper.upon_value]
  go_wp2
  rw [run_typeAssert_map_sl _ _ _ _ _ _ Tryd.underlying50]
  simp only [Result.andThen]
  rw [Oper.upon_value]
  go_wp2
  go_ret
  exact ⟨rfl, rfl⟩
end Go.Proofs.YtjhakplaffgkpaaDoor

namespace Go.Proofs.YtjhakplaffgkpaaDoor
open Go.RowKit
set_option maxRecDepth 20000

theorem wclone_w {w : World} {b m : Nat} {f : SaysW} (h : MapW Tryd.prog 22 w b m f) :
    Calls Tryd.prog 24 #[.map (some b)] w fun e w' => ∃ b', e = .returned (.map (some b')) ∧ w.heap.size ≤ b' ∧ MapW Tryd.prog 22 w' b' m f ∧ Below w.heap.size w w' := by
  obtain ⟨es, cl, hb, hc⟩ := h.clone
  refine (wclone_any hb).mono fun e w' hh => ?_
  obtain ⟨he, hw⟩ := hh
  exact ⟨_, he, Nat.le_refl _, hc w w' hw, by rw [hw]; exact (Below.refl _ _).alloc (Nat.le_refl _) _⟩
theorem wnclone_nil (w : World) : Calls Tryd.prog 10 #[.pointer none] w fun e w' => e = .returned (.pointer none) ∧ w = w' := by
  go_enter Tryd.func10, Tryd.ntmps10
  go_wp2
  go_ret
  exact ⟨rfl, rfl⟩
/-- A window's copy. -/
def WClone (w : World) (m : Nat) (t : Wv) (e : Ending) (w' : World) : Prop := ∃ g' b', e = .returned (.pointer (some ⟨g', 0, none⟩)) ∧ w.heap.size ≤ g' ∧ w.heap.size ≤ b' ∧ Wn w' g' b' m t ∧ Below w.heap.size w w'
set_option maxHeartbeats 2000000 in
theorem wnclone_any {w : World} {g b m : Nat} {t : Wv} (h : Wn w g b m t) : Calls Tryd.prog 10 #[.pointer (some ⟨g, 0, none⟩)] w (WClone w m t) := by
  have HH := Lib.hid h
  clear h
  go_enter Tryd.func10, Tryd.ntmps10
  go_wp2
  refine wp_low w.heap.size [([0, 1, 2, 3, 4, 5, 6, 7, 8, 9, 10, 11], 12), ([13], 14)] [15] (by kernel_rfl) (by kernel_rfl) (fun d _ _ _ _ h => by cases d <;> exact h) (Nat.le_refl _) fun wd hbd => ?_
  intro q hq
  have d0 := fun z => (HH.out.below (hq z)).c0
  have d1 := fun z => (HH.out.below (hq z)).c1
  have d2 := fun z => (HH.out.below (hq z)).c2
  simp only [pickI, Option.toList_some, List.cons_append, List.nil_append, List.getElem?_toArray, List.getElem?_cons_succ, List.getElem?_cons_zero]
  try go_frame
  go_big_quiet_step (fail)
  go_big_quiet_step (fail)
  go_big_quiet_step (fail)
  go_big_quiet_step (fail)
  go_big_quiet_step (fail)
  go_big_quiet_step (fail)
  go_big_quiet_step (fail)
  go_big_quiet_step (fail)
  go_big_quiet_step (fail)
  go_big_quiet_step (fail)
  go_big_quiet_step (fail)
  go_big_quiet_step (fail)
  refine wpQuiet_nil ?_
  clear hq q d0 d1 d2
  refine seg_op (by simp only [List.getElem?_toArray, List.getElem?_cons_succ, List.getElem?_cons_zero]; rfl) fun K hK => ?_
  go_simp
  refine (wclone_w (HH.out.below hbd).map).mono ?_
  rintro e v0 ⟨b1, rfl, hb1, HM1, bv0⟩
  have zv0 := hbd.trans (bv0.mono hbd.size)
  refine hK.out _ _ (seg_keep zv0 ?_)
  clear hK K
  intro q hq
  have d0 := fun z => (HH.out.below (hq z)).c0
  have d1 := fun z => (HH.out.below (hq z)).c1
  have d2 := fun z => (HH.out.below (hq z)).c2
  simp only [pickI, Option.toList_some, List.cons_append, List.nil_append, List.getElem?_toArray, List.getElem?_cons_succ, List.getElem?_cons_zero]
  try go_frame
  go_big_quiet_step (fail)
  refine wpQuiet_nil ?_
  clear hq q d0 d1 d2
  refine seg_op (by simp only [List.getElem?_toArray, List.getElem?_cons_succ, List.getElem?_cons_zero]; rfl) fun K hK => ?_
  go_simp
  have zv1 := Below.alloc zv0 zv0.size (.cells #[.int .u64 ((t.all : Nat) : Int), .int .u64 (t.low : Int), .map (some b1)] 52)
  refine hK.out _ _ (seg_keep zv1 ?_)
  clear hK K
  intro q hq
  have d0 := fun z => (HH.out.below (hq z)).c0
  have d1 := fun z => (HH.out.below (hq z)).c1
  have d2 := fun z => (HH.out.below (hq z)).c2
  simp only [pickI, Option.toList_some, List.cons_append, List.nil_append, List.getElem?_toArray, List.getElem?_cons_succ, List.getElem?_cons_zero]
  try go_frame
  go_big_quiet_step (fail)
  refine wpQuiet_nil ?_
  clear hq q d0 d1 d2
  go_wp2
  go_ret
  have hr := heap_alloc_new v0 (.cells #[.int .u64 ((t.all : Nat) : Int), .int .u64 (t.low : Int), .map (some b1)] 52)
  refine ⟨v0.heap.size, b1, rfl, zv0.size, Nat.le_trans hbd.size hb1, ⟨hr, HM1.kept (World.grownBy_alloc _ _ none) (by simp), HH.out.ok⟩, zv1⟩

theorem has_all (n : Nat) (node : Int) (hn : n ≤ 7) : Qu.inB (2 ^ n - 1) node = decide (0 ≤ node ∧ node < (n : Int)) := by
  unfold Qu.inB
  by_cases h0 : 0 ≤ node
  · obtain ⟨k, rfl⟩ : ∃ k : Nat, node = (k : Int) := ⟨node.toNat, by omega⟩
    rw [Int.toNat_natCast, Nat.testBit_two_pow_sub_one]
    by_cases h1 : k < n
    · simp [h1]; omega
    · simp [h1]
  · simp [h0]
/-- What a call makes of a window. -/
def WAck (w : World) (g b m : Nat) (t : Wv) (node : Int) (x : Nat) (e : Ending) (w' : World) : Prop := e = .returned (.int .i64 (t.err node x)) ∧ Wn w' g b (m + 1) (t.ack node x) ∧ Keeps (fun i => i = b) w w'
theorem ack_nil (node x : Int) (w : World) : Calls Tryd.prog 11 #[.pointer none, .int .i64 node, .int .u64 x] w fun e w' => e = .returned (.int .i64 1) ∧ w = w' := by
  go_enter Tryd.func11, Tryd.ntmps11
  go_wp2
  go_ret
  exact ⟨rfl, rfl⟩
theorem lit_is {w w1 : World} (n : Int) (hb : w1 = w.alloc (.cells #[.int .i64 n] 3)) : Rd w1 w1.heap.size 1 (some ⟨w.heap.size, 0, none⟩) 1 1 (Qu.is [n]) := by
  have h := Rd.lit w (B := w1.heap.size) (n := 1) (fr := (0, 0)) #[.int .i64 n] 3 rfl (by decide) (by rw [hb]; simp)
  rw [← hb] at h
  exact h
set_option maxHeartbeats 4000000 in
theorem ack_any {w : World} {g b m : Nat} {t : Wv} (h : Wn w g b m t) (hm : m ≤ 1000000) (node : Int) (x : Nat) (hx : x < 18446744073709551616) :
    Calls Tryd.prog 11 #[.pointer (some ⟨g, 0, none⟩), .int .i64 node, .int .u64 (x : Int)] w (WAck w g b m t node x) := by
  have HN := Lib.hid (fun W => Qu.has_any t.all node W h.ok.all_lt)
  have HT := Lib.hid (wtop_any h)
  have c0 := h.c0
  have c1 := h.c1
  have hlo := h.ok.lo
  have HH := Lib.hid h
  cases hb : Qu.inB t.all node with
  | false =>
    have he : t.err node x = 2 := by unfold Wv.err; rw [hb]; rfl
    have ha : t.ack node x = t := by unfold Wv.ack; rw [if_neg (by rw [he]; decide)]
    rw [hb] at HN
    unfold WAck
    rw [he, ha]
    clear h hm hx hb he ha hlo
    go_enter Tryd.func11, Tryd.ntmps11
    go_wp2_with (first
      | (go_at_call 25; (with_reducible refine (HN.out _).mono ?_); rintro e w3 ⟨rfl, rfl⟩)
      | fail)
    go_ret
    exact ⟨rfl, HH.out.mono (by omega), Keeps.refl _ _⟩
  | true =>
    rw [hb] at HN
    by_cases h1 : x ≤ t.low
    · have he : t.err node x = 52 := by unfold Wv.err; rw [hb, if_pos rfl, if_pos h1]
      have ha : t.ack node x = t := by unfold Wv.ack; rw [if_neg (by rw [he]; decide)]
      unfold WAck
      rw [he, ha]
      have d1 : decide (x ≤ t.low) = true := by simpa using h1
      clear h hm hx hb he ha hlo h1
      go_enter Tryd.func11, Tryd.ntmps11
      go_wp2_with (first
        | (go_at_call 25; (with_reducible refine (HN.out _).mono ?_); rintro e w3 ⟨rfl, rfl⟩)
        | fail)
      go_ret
      exact ⟨rfl, HH.out.mono (by omega), Keeps.refl _ _⟩
    · have d1 : decide (x ≤ t.low) = false := by simpa using h1
      have d1' : decide ((x : Int) ≤ (t.low : Int)) = false := by simp; omega
      by_cases h2 : t.low + 192 < x
      · have he : t.err node x = 30 := by unfold Wv.err; rw [hb, if_pos rfl, if_neg h1, if_pos h2]
        have ha : t.ack node x = t := by unfold Wv.ack; rw [if_neg (by rw [he]; decide)]
        unfold WAck
        rw [he, ha]
        have d2 : decide (t.low + 192 < x) = true := by simpa using h2
        have d2' : decide (((t.low + 192 : Nat) : Int) < (x : Int)) = true := by simp; omega
        generalize t.low + 192 = T at *
        clear h hm hx hb he ha hlo h1 h2
        go_enter Tryd.func11, Tryd.ntmps11
        go_wp2_with (first
          | (go_at_call 25; (with_reducible refine (HN.out _).mono ?_); rintro e w3 ⟨rfl, rfl⟩)
          | (go_at_call 26; (with_reducible refine HT.out.mono ?_); rintro e w3 ⟨rfl, rfl⟩)
          | fail)
        go_ret
        exact ⟨rfl, HH.out.mono (by omega), Keeps.refl _ _⟩
      · have he : t.err node x = 0 := by unfold Wv.err; rw [hb, if_pos rfl, if_neg h1, if_neg h2]
        have ha : t.ack node x = t.put node x := by unfold Wv.ack; rw [if_pos he]
        have HE := Lib.hid (And.intro he ha)
        have d2 : decide (t.low + 192 < x) = false := by simpa using h2
        have d2' : decide (((t.low + 192 : Nat) : Int) < (x : Int)) = false := by simp; omega
        have HO := Lib.hid (h.ok.put node x (by omega) (by omega))
        have HX := Lib.hid hx
        have HM := Lib.hid hm
        have HW := Lib.hid (h.ok.who_lt x)
        generalize t.low + 192 = T at *
        clear h hm hx hb he ha hlo h1 h2
        go_enter Tryd.func11, Tryd.ntmps11
        go_wp2_with (first
          | (go_at_call 25; (with_reducible refine (HN.out _).mono ?_); rintro e w3 ⟨rfl, rfl⟩)
          | (go_at_call 26; (with_reducible refine HT.out.mono ?_); rintro e w3 ⟨rfl, rfl⟩)
          | fail)
        have hgb : ¬ g = b := HH.out.ne
        refine wp_treeF (fun i => i = b) (.two [0, 1, 2, 3, 4, 5, 6, 7, 8, 9, 11] 10 12 (.one [] 12 (.one [] 13 (.one [] 14 (.fin [])))) (.one [] 10 (.one [] 13 (.one [] 14 (.fin []))))) (by kernel_rfl) (by kernel_rfl) (fun d _ _ _ _ h => by cases d <;> exact h) fun wd hbd => ?_
        intro q hq
        have d2 := fun z => cell_of_row (q z) g 2 _ _ _ ((hq z).row HH.out.row hgb)
        simp only [pickI, Option.toList_some, List.cons_append, List.nil_append, List.getElem?_toArray, List.getElem?_cons_succ, List.getElem?_cons_zero]
        try go_frame
        iterate 11 go_big_quiet_step (fail)
        refine wpQuiet_nil ?_
        clear d2 hq q
        have hWd := HH.out.below hbd
        have HLK := Lib.hid (hWd.look x HX.out)
        obtain ⟨w1, hw1⟩ : ∃ w1, w1 = wd.alloc (.cells #[.int .i64 node] 3) := ⟨_, rfl⟩
        have hb1 : Below wd.heap.size wd w1 := by rw [hw1]; exact (Below.refl _ _).alloc (Nat.le_refl _) _
        have hW1 := hWd.below hb1
        have HLK1 := Lib.hid (hW1.look x HX.out)
        have hrd := lit_is node hw1
        have hbs : (Instr.buildSlice 72 1 #[(0, .int .i64 node)]).run Tryd.prog wd = .ok (.slice (some ⟨wd.heap.size, 0, none⟩) 1 1) w1 := by
          rw [hw1]
          simp [Instr.buildSlice, go_sem]
        have hwc := Qu.with_any (t.who x) HW.out hrd (by decide)
        have hk1 : Keeps (fun i => i = b) w w1 := (Keeps.of_below hbd).trans (Keeps.of_below (F := fun i => i = b) hb1) (fun i hi => .inl hi)
        obtain ⟨w2, hput, hm2, hg2, hz2⟩ := hW1.map.put (t := 50) (e := 22) Tryd.underlying22 Tryd.underlying50 (by have := HM.out; unfold maxLen; omega) x HX.out (Qu.with1 (t.who x) node) (Qu.with1_lt node HW.out)
        have hk2 : Keeps (fun i => i = b) w w2 := hk1.grown hg2 (fun k e => .inl (Option.some.inj e).symm)
        have hend : WAck w g b m t node x (.returned (.int .i64 0)) w2 := by
          unfold WAck
          rw [HE.out.1, HE.out.2]
          exact ⟨rfl, ⟨hk2.row HH.out.row hgb, hm2, HO.out⟩, hk2⟩
        have HEND := Lib.hid hend
        have HLKd := HLK
        clear hend hm2 hg2 hz2 hW1 hWd hrd hw1
        constructor
        · refine seg_op (by simp only [List.getElem?_toArray, List.getElem?_cons_succ, List.getElem?_cons_zero]; rfl) fun K hK => ?_
          refine ite_ok rfl ?_
          refine wp_look1 _ (.tmp 38) (.tmp 39) false rfl rfl rfl HLK.out ?_
          refine hK.out _ _ ⟨Keeps.of_below hbd, ?_⟩
          clear hK K
          try go_frame
          intro q hq
          refine wpQuiet_nil ?_
          clear hq q
          refine seg_op (by simp only [List.getElem?_toArray, List.getElem?_cons_succ, List.getElem?_cons_zero]; rfl) fun K hK => ?_
          refine ite_ok rfl ?_
          refine wp_bslice _ 1 (.tmp 41) rfl rfl hbs ?_
          refine hK.out _ _ ⟨hk1, ?_⟩
          clear hK K
          try go_frame
          intro q hq
          refine wpQuiet_nil ?_
          clear hq q
          refine seg_op (by simp only [List.getElem?_toArray, List.getElem?_cons_succ, List.getElem?_cons_zero]; rfl) fun K hK => ?_
          go_simp
          refine hwc.mono ?_
          rintro e v3 ⟨rfl, rfl⟩
          refine hK.out _ _ ⟨hk1, ?_⟩
          clear hK K
          try go_frame
          intro q hq
          refine wpQuiet_nil ?_
          clear hq q
          refine seg_op (by simp only [List.getElem?_toArray, List.getElem?_cons_succ, List.getElem?_cons_zero]; rfl) fun K hK => ?_
          refine ite_ok rfl ?_
          refine wp_update _ (.tmp 33) (.tmp 34) (.tmp 43) rfl rfl rfl rfl hput ?_
          refine hK.out _ _ ⟨hk2, ?_⟩
          clear hK K
          try go_frame
          intro q hq
          refine wpQuiet_nil ?_
          clear hq q
          go_wp2
          go_ret
          exact HEND.out
        · refine seg_op (by simp only [List.getElem?_toArray, List.getElem?_cons_succ, List.getElem?_cons_zero]; rfl) fun K hK => ?_
          refine ite_ok rfl ?_
          refine wp_bslice _ 1 (.tmp 41) rfl rfl hbs ?_
          refine hK.out _ _ ⟨hk1, ?_⟩
          clear hK K
          try go_frame
          intro q hq
          refine wpQuiet_nil ?_
          clear hq q
          refine seg_op (by simp only [List.getElem?_toArray, List.getElem?_cons_succ, List.getElem?_cons_zero]; rfl) fun K hK => ?_
          refine ite_ok rfl ?_
          refine wp_look1 _ (.tmp 38) (.tmp 39) false rfl rfl rfl HLK1.out ?_
          refine hK.out _ _ ⟨hk1, ?_⟩
          clear hK K
          try go_frame
          intro q hq
          refine wpQuiet_nil ?_
          clear hq q
          refine seg_op (by simp only [List.getElem?_toArray, List.getElem?_cons_succ, List.getElem?_cons_zero]; rfl) fun K hK => ?_
          go_simp
          refine hwc.mono ?_
          rintro e v3 ⟨rfl, rfl⟩
          refine hK.out _ _ ⟨hk1, ?_⟩
          clear hK K
          try go_frame
          intro q hq
          refine wpQuiet_nil ?_
          clear hq q
          refine seg_op (by simp only [List.getElem?_toArray, List.getElem?_cons_succ, List.getElem?_cons_zero]; rfl) fun K hK => ?_
          refine ite_ok rfl ?_
          refine wp_update _ (.tmp 33) (.tmp 34) (.tmp 43) rfl rfl rfl rfl hput ?_
          refine hK.out _ _ ⟨hk2, ?_⟩
          clear hK K
          try go_frame
          intro q hq
          refine wpQuiet_nil ?_
          clear hq q
          go_wp2
          go_ret
          exact HEND.out
end Go.Proofs.YtjhakplaffgkpaaDoor
