/- Parts of a store's row are stored into: its marks, its requests. Apply, of a store whose device has power. A store on a new device. The chapter's example of layer 16: its call answers true. -/
import Derived.Test.YtpalmobmabkadaaGreatDoorMsetM
import Derived.Deep.MidRow
import Derived.Deep.DeepCutAuto
import Derived.Deep.CutBlock
import Derived.Test.YtpalmobmabkadaaGreatDoorSnilM
namespace Go.Proofs.YtpalmobmabkadaaGreatDoor
open Go.RowKit
set_option maxRecDepth 20000

theorem heap_setCells {b : Nat} {t : TypeId} : ∀ (vs : List Value) (o : Nat) (w : World) (cs : List Value), o + vs.length ≤ cs.length → w.heap[b]? = some (.cells cs.toArray t (0, 0)) →
    (w.setCells b o vs).heap[b]? = some (.cells (cs.take o ++ vs ++ cs.drop (o + vs.length)).toArray t (0, 0)) ∧ w.grownBy (w.setCells b o vs) (some b)
  | [], o, w, cs, hl, h => by
    refine ⟨?_, World.grownBy.refl _ _⟩
    show w.heap[b]? = _
    rw [h]
    simp
  | v :: r, o, w, cs, hl, h => by
    rw [List.length_cons] at hl
    have h1 : (w.setCell ⟨b, o, none⟩ v).heap[b]? = some (.cells (cs.set o v).toArray t (0, 0)) := by
      rw [heap_setCell_same w b o _ _ _ h]
      simp
    obtain ⟨h2, h3⟩ := heap_setCells r (o + 1) (w.setCell ⟨b, o, none⟩ v) (cs.set o v) (by rw [List.length_set]; omega) h1
    refine ⟨?_, grownBy_trans (setCell_by (World.grownBy.refl w (some b)) (p := ⟨b, o, none⟩) rfl v) h3 (.inl rfl)⟩
    show ((w.setCell ⟨b, o, none⟩ v).setCells b (o + 1) r).heap[b]? = _
    rw [h2]
    congr 2
    apply Array.ext'
    simp only
    have hlo : o < cs.length := by omega
    rw [List.take_succ_eq_append_getElem (by rw [List.length_set]; exact hlo), List.take_set_of_le (Nat.le_refl _), List.getElem_set_self, List.drop_set_of_lt (by omega), List.length_cons, show o + 1 + r.length = o + (r.length + 1) by omega]
    simp
section
variable {w w' : World} {S : Nat} {g T : Option Addr} {bn bs : Option Nat} {v : Sv}
def Sv.mark (v : Sv) (L B : Nat) : Sv := { v with L := L, B := B }
def Sv.done (v : Sv) (U : List Cl) : Sv := { v with T := U }
theorem Srow.there (h : Srow w S g T bn bs v) {o n : Nat} (ho : o + n ≤ 25) : w.there S o n := fun j hj => by
  refine ⟨?_, h.free _⟩
  rw [cell_of_row w S (o + j) _ _ _ h.1, List.getElem?_toArray, List.getElem?_eq_getElem (by rw [scells_len h.2]; omega)]
  rfl
theorem Srow.marks (h : Srow w S g T bn bs v) : w.rangeAt S 4 [.int .u64 (v.L : Int), .int .u64 (v.B : Int)] := by
  intro j u hu
  rw [cell_of_row w S (4 + j) _ _ _ h.1, List.getElem?_toArray]
  match j, hu with
  | 0, hu => exact hu
  | 1, hu => exact hu
  | j + 2, hu => simp at hu
theorem Srow.table (h : Srow w S g T bn bs v) : w.rangeAt S 6 (tcells v.T) := by
  intro j u hu
  have hl := tcells_len v.T
  have hj := (List.getElem?_eq_some_iff.1 hu).1
  rw [cell_of_row w S (6 + j) _ _ _ h.1, List.getElem?_toArray, show 6 + j = j + 1 + 1 + 1 + 1 + 1 + 1 by omega]
  unfold scells
  simp only [List.getElem?_cons_succ]
  rw [List.getElem?_append_left hj]
  exact hu
theorem Srow.setMarks (h : Srow w S g T bn bs v) (L B : Nat) : Srow (w.setCells S 4 [.int .u64 (L : Int), .int .u64 (B : Int)]) S g T bn bs (v.mark L B) ∧ w.grownBy (w.setCells S 4 [.int .u64 (L : Int), .int .u64 (B : Int)]) (some S) := by
  obtain ⟨h1, h2⟩ := heap_setCells [.int .u64 (L : Int), .int .u64 (B : Int)] 4 w _ (by rw [scells_len h.2]; exact (by decide : 4 + 2 ≤ 25)) h.1
  refine ⟨⟨h1.trans ?_, h.2⟩, h2⟩
  congr 2
theorem Srow.setTable (h : Srow w S g T bn bs v) (U : List Cl) (hU : U.length = 8) : Srow (w.setCells S 6 (tcells U)) S g T bn bs (v.done U) ∧ w.grownBy (w.setCells S 6 (tcells U)) (some S) := by
  have hl := tcells_len U
  have hl2 := tcells_len v.T
  have h8 := h.2
  obtain ⟨h1, h2⟩ := heap_setCells (tcells U) 6 w _ (by rw [scells_len h.2]; omega) h.1
  refine ⟨⟨h1.trans ?_, hU⟩, h2⟩
  congr 2
  apply Array.ext'
  simp only
  rw [show 6 + (tcells U).length = 16 + 1 + 1 + 1 + 1 + 1 + 1 by omega]
  unfold scells Sv.done
  simp only [List.drop_succ_cons]
  rw [List.drop_append, List.drop_of_length_le (by omega), hl2, h8]
  simp
end
/-- The store's row turned, and it alone. -/
theorem Slx.setRow {X : Nat → Prop} {w W W' : World} {B g T S bn bs M kn ks : Nat} {d : Dv} {t : Tv} {v v' : Sv} {fn fs : SaysS} (h : Slx X w W B g T S bn bs M kn ks d t v fn fs) (hg : W.grownBy W' (some S)) (hr : Srow W' S (some ⟨g, 0, none⟩) (some ⟨T, 0, none⟩) (some bn) (some bs) v') : Slx X w W' B g T S bn bs M kn ks d t v' fn fs :=
  ⟨h.tlx.turn ((Keeps.refl _ _).grown hg (fun k e => .inl (by cases e; exact ⟨.inr (.inl rfl), h.new.1⟩))), hr, h.now.kept hg (fun e => h.apart.1 (by injection e with e; exact e.symm)), h.saved.kept hg (fun e => h.apart.2.1 (by injection e with e; exact e.symm)), h.new, h.apart⟩
end Go.Proofs.YtpalmobmabkadaaGreatDoor

namespace Go.Proofs.YtpalmobmabkadaaGreatDoor
open Go.RowKit
set_option maxRecDepth 20000

/-- A store as it should be: where its blocks stand, and stood when it was saved; its marks; its requests. -/
structure Fit (d : Dv) (v : Sv) (fn fs : SaysS) : Prop where
  n1 : 1 ≤ v.n
  n64 : v.n ≤ 64
  pn : Pl fn (2 * v.n + 8)
  ps : Pl fs (2 * v.n + 8)
  dn : Dom fn v.n
  ds : Dom fs v.n
  f0 : 0 ≤ v.first
  f1 : v.first + (2 * v.n + 8 : Nat) ≤ d.n
  B : v.B < 18446744073709551616
  gd : Gd v.L v.B
  T : Tok v.T
theorem Fit.L {d : Dv} {v : Sv} {fn fs : SaysS} (h : Fit d v fn fs) : v.L ≤ 4611686018427387840 := h.gd.1
/-- What becomes of a store by an entry. -/
def AppTo (d : Dv) (v : Sv) (fn fs : SaysS) (e : E16) (err : Int) (d' : Dv) (v' : Sv) (fn' : SaysS) : Prop :=
  (whyNot v e ≠ 0 ∧ err = whyNot v e ∧ d' = d ∧ v' = v ∧ fn' = fn) ∨
  (whyNot v e = 0 ∧ ¬ Room v.L e.ix ∧ err = 30 ∧ d' = d ∧ v' = v ∧ fn' = fn) ∨
  (whyNot v e = 0 ∧ Room v.L e.ix ∧ e.kind = 2 ∧ err = 0 ∧ d' = d ∧ v' = v.mark (mset v.L v.B e.ix).1 (mset v.L v.B e.ix).2 ∧ fn' = fn) ∨
  (whyNot v e = 0 ∧ Room v.L e.ix ∧ e.kind = 1 ∧ ∃ ats, AtOk ats e.c (2 * v.n + 8) (fun j => (∃ x, fn x = some j) ∨ ∃ x, fs x = some j) ∧ err = (d.wrs v.first ats e.data e.c).2 ∧ d' = (d.wrs v.first ats e.data e.c).1 ∧
    (err = 0 → v' = (v.done (addT v.T e.cl e.rq)).mark (mset v.L v.B e.ix).1 (mset v.L v.B e.ix).2 ∧ fn' = upd fn e.f ats e.c) ∧ (err ≠ 0 → v' = v ∧ fn' = fn))
theorem why_kind {v : Sv} {e : E16} (h : whyNot v e = 0) : e.kind = 1 ∨ e.kind = 2 := by
  unfold whyNot at h
  split at h
  · cases h
  · next h1 => omega
theorem why_write {v : Sv} {e : E16} (h : whyNot v e = 0) (h1 : e.kind = 1) : e.data.length = 8 * e.c ∧ 0 < e.c ∧ e.c ≤ 8 ∧ e.f + e.c ≤ v.n := by
  unfold whyNot at h
  rw [if_neg (by omega)] at h
  split at h
  · cases h
  · next h2 =>
    split at h
    · cases h
    · next h3 =>
      have h4 : 0 < e.c ∧ e.f + e.c ≤ v.n := Classical.byContradiction fun hc => h3 ⟨h1, .inl hc⟩
      have h5 : ¬ 8 < e.c := fun hc => h3 ⟨h1, .inr hc⟩
      have h6 : e.data.length = 8 * e.c := Classical.byContradiction fun hc => h2 ⟨h1, hc⟩
      omega
/-- What Apply does. -/
def Applied (X : Nat → Prop) (w W : World) (B g T S bn bs M kn ks : Nat) (d : Dv) (t : Tv) (v : Sv) (fn fs : SaysS) (e : E16) (z : Ending) (w' : World) : Prop :=
  ∃ err d' v' fn', z = .returned (.int .i64 err) ∧ Slx X w w' B g T S bn bs (M + 512) (kn + 8) ks d' t v' fn' fs ∧ Keeps (Off X w) W w' ∧ AppTo d v fn fs e err d' v' fn'
theorem entry_size : (Tryz.prog.info? 47).map (·.size) = some 10 := by kernel_rfl
theorem e16_range {w : World} {b : Nat} {e : E16} {t : TypeId} (h : w.heap[b]? = some (.cells (e16cs e).toArray t (0, 0))) : w.rangeAt b 0 (e16cs e) := by
  intro j u hu
  rw [cell_of_row w b (0 + j) _ _ _ h, Nat.zero_add, List.getElem?_toArray]
  exact hu
set_option maxHeartbeats 4000000 in
theorem sapply_no {X : Nat → Prop} {w W : World} {B g T S bn bs M kn ks : Nat} {d : Dv} {t : Tv} {v : Sv} {fn fs : SaysS} (h : Slx X w W B g T S bn bs M kn ks d t v fn fs) (hf : Fit d v fn fs) (e : E16) (he : e.Ok) (hw : whyNot v e ≠ 0) :
    Calls Tryz.prog 20 #[.pointer (some ⟨S, 0, none⟩), .agg (e16cs e).toArray] W fun z w' => z = .returned (.int .i64 (whyNot v e)) ∧ Below W.heap.size W w' := by
  have hn := hf.n64
  have hL := hf.L
  have HR := Lib.hid (fun W' (hb : Below W.heap.size W W') => refuses_any (h.row.below hb) e he (by omega) (by omega) hf.B)
  have HH := Lib.hid h.row
  have hq : (whyNot v e != 0) = true := by simpa using hw
  generalize whyNot v e = y at *
  clear hn hL h hf hw
  go_enter Tryz.func20, Tryz.ntmps20
  go_wp2_with (first
    | (refine wpL_rbox (cs := e16cs e) rfl _ rfl rfl ?_; intro W1 bx hN; obtain ⟨hbx, hr1, hb1, hz1⟩ := hN; have HB1 := Lib.hid hb1; clear hb1)
    | (go_at_call 48; refine (sopen_any (HH.out.below HB1.out)).mono ?_; rintro e1 w1 ⟨rfl, rfl⟩)
    | (refine wpList_load_mid rfl _ _ rfl bx 0 rfl (e16cs e) _ (e16_range hr1.out) Tryz.underlying47 rfl entry_size ?_)
    | (go_at_call 49; refine (HR.out _ HB1.out).mono ?_; rintro e1 w2 ⟨rfl, hb2⟩)
    | fail)
  go_ret
  exact ⟨rfl, HB1.out.trans (hb2.mono HB1.out.size)⟩
/-- What marks.Set tells. -/
def setE (L _ n : Nat) : Int := if n ≤ 4611686018427387840 ∧ n ≤ L + 64 then 0 else 30
def setM (L B n : Nat) : Nat × Nat := if n ≤ 4611686018427387840 ∧ n ≤ L + 64 then mset L B n else (L, B)
theorem set_any (L B n : Nat) (w : World) (hL : L ≤ 4611686018427387840) (hB : B < 18446744073709551616) (hT : Tab w) (hn : n < 18446744073709551616) :
    Calls Tryz.prog 50 #[.agg #[.int .u64 (L : Int), .int .u64 (B : Int)], .int .u64 (n : Int)] w fun e w' => e = .returned (.tuple #[.agg #[.int .u64 ((setM L B n).1 : Int), .int .u64 ((setM L B n).2 : Int)], .int .i64 (setE L B n)]) ∧ Below w.heap.size w w' := by
  unfold setE setM
  by_cases hr : n ≤ 4611686018427387840 ∧ n ≤ L + 64
  · rw [if_pos hr, if_pos hr]
    exact set_ok L B n w hL hB hT hr
  · rw [if_neg hr, if_neg hr]
    exact set_no L B n w hL hn hr
/-- Behind the marks' call. -/
def MCut (W : World) (bx : Nat) (e : E16) (E : Int) (P : Nat × Nat) (mr er : Value) (wx : World) : Prop := ∃ bm, mr = .pointer (some ⟨bm, 0, none⟩) ∧ er = .int .i64 E ∧ Below W.heap.size W wx ∧ W.heap.size ≤ bm ∧ bm < wx.heap.size ∧ bx ≠ bm ∧
  wx.heap[bm]? = some (.cells #[.int .u64 (P.1 : Int), .int .u64 (P.2 : Int)] 36 (0, 0)) ∧ wx.heap[bx]? = some (.cells (e16cs e).toArray 47 (0, 0))
theorem marks_size : (Tryz.prog.info? 36).map (·.size) = some 2 := by kernel_rfl
theorem pair_one (a c : Nat) : (#[.int .u64 (a : Int), .int .u64 (c : Int)] : Array Value).all (·.oneCell') = true := all_oneCell_toArray (cs := [.int .u64 (a : Int), .int .u64 (c : Int)]) (by intro u hu; simp at hu; rcases hu with rfl | rfl <;> rfl)
theorem pair_there {w : World} {b : Nat} {a c : Value} {t : TypeId} (h : w.heap[b]? = some (.cells #[a, c] t (0, 0))) : w.there b 0 2 := fun j hj => by
  refine ⟨?_, frozen_of_row w b _ _ _ h⟩
  rw [cell_of_row w b (0 + j) _ _ _ h, Array.getElem?_eq_getElem (by simp; omega)]
  rfl
theorem pair_set {w : World} {b : Nat} {a c x y : Value} {t : TypeId} (h : w.heap[b]? = some (.cells #[a, c] t (0, 0))) : (w.setCells b 0 [x, y]).heap[b]? = some (.cells #[x, y] t (0, 0)) ∧ w.grownBy (w.setCells b 0 [x, y]) (some b) :=
  heap_setCells [x, y] 0 w [a, c] (Nat.le_refl _) h
set_option maxHeartbeats 4000000 in
theorem sapply_yes {X : Nat → Prop} {w W : World} {B g T S bn bs M kn ks : Nat} {d : Dv} {t : Tv} {v : Sv} {fn fs : SaysS} (h : Slx X w W B g T S bn bs M kn ks d t v fn fs) (hf : Fit d v fn fs) (hT : Tab W) (hd : d.down = false) (hM : M ≤ 90000) (hkn : kn ≤ 100000) (e : E16) (he : e.Ok) (hw : whyNot v e = 0) :
    Calls Tryz.prog 20 #[.pointer (some ⟨S, 0, none⟩), .agg (e16cs e).toArray] W (Applied X w W B g T S bn bs M kn ks d t v fn fs e) := by
  have hn := hf.n64
  have hL := hf.L
  have HR := Lib.hid (fun W' (hb : Below W.heap.size W W') => refuses_any (h.row.below hb) e he (by omega) (by omega) hf.B)
  rw [hw] at HR
  have HH := Lib.hid h
  have HF := Lib.hid hf
  have HT := Lib.hid hT
  have HD := Lib.hid hd
  have HM := Lib.hid (And.intro hM hkn)
  have HE := Lib.hid he
  have HW := Lib.hid hw
  have HS := Lib.hid (fun W' (hb : Below W.heap.size W W') => set_any v.L v.B e.ix W' hL hf.B (hT.below hb) he.ix)
  obtain ⟨P, hP⟩ : ∃ P, P = setM v.L v.B e.ix := ⟨_, rfl⟩
  obtain ⟨E, hE⟩ : ∃ E, E = setE v.L v.B e.ix := ⟨_, rfl⟩
  rw [← hP, ← hE] at HS
  have HPE := Lib.hid (And.intro hP hE)
  clear hn hL h hf hw hP hE hT hd hM hkn he
  unfold Applied
  go_enter Tryz.func20, Tryz.ntmps20
  go_wp2_with (first
    | (refine wpL_rbox (cs := e16cs e) rfl _ rfl rfl ?_; intro W1 bx hN; obtain ⟨hbx, hr1, hb1, hz1⟩ := hN; have HB1 := Lib.hid hb1; have HZ1 := Lib.hid (show bx = W.heap.size ∧ W1.heap.size = bx + 1 from ⟨hbx.out, hz1.out⟩); clear hb1 hbx hz1)
    | (go_at_call 48; refine (sopen_any (HH.out.row.below HB1.out)).mono ?_; rintro e1 w1 ⟨rfl, rfl⟩)
    | (refine wpList_load_mid rfl _ _ rfl bx 0 rfl (e16cs e) _ (e16_range hr1.out) Tryz.underlying47 rfl entry_size ?_)
    | (go_at_call 49; refine (HR.out _ HB1.out).mono ?_; rintro e1 w2 ⟨rfl, hb2⟩)
    | fail)
  have HRW := Lib.hid (row_below hr1.out hb2)
  have HB2 := Lib.hid (HB1.out.trans (hb2.mono HB1.out.size))
  have HZ2 := Lib.hid (show W.heap.size ≤ bx ∧ bx < w2.heap.size by have := HZ1.out; have := hb2.size; omega)
  clear hr1 HB1 HZ1 hb2 HR
  go_cut [6, 7] (fun mr er wx => MCut w2 bx e E P mr er wx)
  case first =>
    have r4 := (HH.out.row.below HB2.out).marks
    have hSl := (HH.out.row.below HB2.out).lt
    have x0 : w2.cell? ⟨bx, 0, none⟩ = some (.int .u64 (e.ix : Int)) := cell_of_row w2 bx 0 _ _ _ HRW.out
    have hbl := HZ2.out.2
    refine wp_tree w2.heap.size (.two [0, 1, 2, 3, 4, 5] 6 10 (.one [7, 8, 9] 10 (.one [] 11 (.fin [12]))) (.one [] 6 (.one [7, 8, 9] 11 (.fin [12])))) (by kernel_rfl) (by kernel_rfl) (fun d _ _ _ _ h => by cases d <;> exact h) fun wd hbd => ?_
    intro f hf
    have HFM : Hid (∀ x, (∃ z, x = f z) → (Instr.loadAt 36 (.pointer (some ⟨S, 4, none⟩))).run Tryz.prog x = .ok (.agg #[.int .u64 (v.L : Int), .int .u64 (v.B : Int)]) x) := Lib.hid (by
      rintro x ⟨z, rfl⟩
      exact run_loadAt_mid _ S 4 _ [.int .u64 (v.L : Int), .int .u64 (v.B : Int)] _ (fun j u hu => ((hf z).cell (p := ⟨S, 4 + j, none⟩) hSl).trans (r4 j u hu)) Tryz.underlying36 rfl marks_size)
    have F2 := fun z => ((hf z).cell (p := ⟨bx, 0, none⟩) hbl).trans x0
    simp only [pickI, Option.toList_some, List.cons_append, List.nil_append, List.getElem?_toArray, List.getElem?_cons_succ, List.getElem?_cons_zero]
    repeat (first | (refine wpQ_load rfl _ (.tmp 21) rfl rfl HFM.out ?_; go_frame) | go_big_quiet_step (fail))
    refine wpQuiet_nil ?_
    clear HFM F2 hf f
    refine ⟨?_, ?_⟩
    · refine seg_op (by simp only [List.getElem?_toArray, List.getElem?_cons_succ, List.getElem?_cons_zero]; rfl) fun K hK => ?_
      go_simp
      refine (HS.out wd (HB2.out.trans (hbd.mono HB2.out.size))).mono ?_
      rintro e1 w3 ⟨rfl, hb3⟩
      have hb3' : Below w2.heap.size w2 w3 := hbd.trans (hb3.mono hbd.size)
      refine hK.out _ _ ⟨hb3', ?_⟩
      clear hK K
      try go_frame
      intro f hf
      simp only [pickI, Option.toList_some, List.cons_append, List.nil_append, List.getElem?_toArray, List.getElem?_cons_succ, List.getElem?_cons_zero]
      repeat (go_big_quiet_step (fail))
      refine wpQuiet_nil ?_
      clear hf f
      refine seg_op (by simp only [List.getElem?_toArray, List.getElem?_cons_succ, List.getElem?_cons_zero]; rfl) fun K hK => ?_
      go_simp
      have hr4 := heap_alloc_new w3 (.cells #[.int .u64 0, .int .u64 0] 36)
      have hb4 : Below w2.heap.size w2 (w3.alloc (.cells #[.int .u64 0, .int .u64 0] 36)) := hb3'.alloc hb3'.size _
      have hz4 : w3.heap.size < (w3.alloc (.cells #[.int .u64 0, .int .u64 0] 36)).heap.size := by simp
      refine hK.out _ _ ⟨hb4, ?_⟩
      have hbm : w2.heap.size ≤ w3.heap.size := hb3'.size
      obtain ⟨bm, hbme⟩ : ∃ bm, bm = w3.heap.size := ⟨_, rfl⟩
      rw [← hbme] at hr4 hz4 hbm ⊢
      clear hbme
      generalize w3.alloc (.cells #[.int .u64 0, .int .u64 0] 36) = w4 at *
      clear hK K
      intro f hf
      refine wpQuiet_nil ?_
      clear hf f
      refine seg_op (by simp only [List.getElem?_toArray, List.getElem?_cons_succ, List.getElem?_cons_zero]; rfl) fun K hK => ?_
      rw [if_pos (by rfl)]
      have HST := Lib.hid (pair_set (x := .int .u64 (P.1 : Int)) (y := .int .u64 (P.2 : Int)) hr4)
      have hb5 : Below w2.heap.size w2 (w4.setCells bm 0 [.int .u64 (P.1 : Int), .int .u64 (P.2 : Int)]) := hb4.grown HST.out.2 hb4.size (fun k e => by have := Option.some.inj e; omega)
      refine wp_store_mid _ _ _ rfl bm 0 #[.int .u64 (P.1 : Int), .int .u64 (P.2 : Int)] rfl rfl (pair_there hr4) marks_size (pair_one _ _) ?_
      refine hK.out _ _ ⟨hb5, ?_⟩
      have HB5 := Lib.hid hb5
      have hz5 : bm < (w4.setCells bm 0 [.int .u64 (P.1 : Int), .int .u64 (P.2 : Int)]).heap.size := Nat.lt_of_lt_of_le hz4 HST.out.2.size
      clear hK K
      try go_frame
      intro f hf
      simp only [pickI, Option.toList_some, List.cons_append, List.nil_append, List.getElem?_toArray, List.getElem?_cons_succ, List.getElem?_cons_zero]
      repeat (go_big_quiet_step (fail))
      refine wpQuiet_nil ?_
      clear hf f
      go_wp2_with (fail)
      go_meet
      case rel => exact ⟨bm, rfl, rfl, HB5.out, hbm, hz5, by have := HZ2.out; omega, HST.out.1, row_below HRW.out HB5.out⟩
    · refine seg_op (by simp only [List.getElem?_toArray, List.getElem?_cons_succ, List.getElem?_cons_zero]; rfl) fun K hK => ?_
      go_simp
      have hr0 := heap_alloc_new wd (.cells #[.int .u64 0, .int .u64 0] 36)
      have hb0 : Below w2.heap.size w2 (wd.alloc (.cells #[.int .u64 0, .int .u64 0] 36)) := hbd.alloc hbd.size _
      have hz0 : wd.heap.size < (wd.alloc (.cells #[.int .u64 0, .int .u64 0] 36)).heap.size := by simp
      refine hK.out _ _ ⟨hb0, ?_⟩
      have hbm : w2.heap.size ≤ wd.heap.size := hbd.size
      obtain ⟨bm, hbme⟩ : ∃ bm, bm = wd.heap.size := ⟨_, rfl⟩
      rw [← hbme] at hr0 hz0 hbm ⊢
      clear hbme
      generalize wd.alloc (.cells #[.int .u64 0, .int .u64 0] 36) = w0 at *
      clear hK K
      intro f hf
      refine wpQuiet_nil ?_
      clear hf f
      refine seg_op (by simp only [List.getElem?_toArray, List.getElem?_cons_succ, List.getElem?_cons_zero]; rfl) fun K hK => ?_
      go_simp
      refine (HS.out w0 (HB2.out.trans (hb0.mono HB2.out.size))).mono ?_
      rintro e1 w4 ⟨rfl, hb3⟩
      have hb4 : Below w2.heap.size w2 w4 := hb0.trans (hb3.mono hb0.size)
      have hr4 := row_below hr0 hb3
      have hz4 : bm < w4.heap.size := Nat.lt_of_lt_of_le hz0 hb3.size
      refine hK.out _ _ ⟨hb4, ?_⟩
      clear hK K
      try go_frame
      intro f hf
      simp only [pickI, Option.toList_some, List.cons_append, List.nil_append, List.getElem?_toArray, List.getElem?_cons_succ, List.getElem?_cons_zero]
      repeat (go_big_quiet_step (fail))
      refine wpQuiet_nil ?_
      clear hf f
      refine seg_op (by simp only [List.getElem?_toArray, List.getElem?_cons_succ, List.getElem?_cons_zero]; rfl) fun K hK => ?_
      rw [if_pos (by rfl)]
      have HST := Lib.hid (pair_set (x := .int .u64 (P.1 : Int)) (y := .int .u64 (P.2 : Int)) hr4)
      have hb5 : Below w2.heap.size w2 (w4.setCells bm 0 [.int .u64 (P.1 : Int), .int .u64 (P.2 : Int)]) := hb4.grown HST.out.2 hb4.size (fun k e => by have := Option.some.inj e; omega)
      refine wp_store_mid _ _ _ rfl bm 0 #[.int .u64 (P.1 : Int), .int .u64 (P.2 : Int)] rfl rfl (pair_there hr4) marks_size (pair_one _ _) ?_
      refine hK.out _ _ ⟨hb5, ?_⟩
      have HB5 := Lib.hid hb5
      have hz5 : bm < (w4.setCells bm 0 [.int .u64 (P.1 : Int), .int .u64 (P.2 : Int)]).heap.size := Nat.lt_of_lt_of_le hz4 HST.out.2.size
      clear hK K
      try go_frame
      intro f hf
      simp only [pickI, Option.toList_some, List.cons_append, List.nil_append, List.getElem?_toArray, List.getElem?_cons_succ, List.getElem?_cons_zero]
      repeat (go_big_quiet_step (fail))
      refine wpQuiet_nil ?_
      clear hf f
      go_wp2_with (fail)
      go_meet
      case rel => exact ⟨bm, rfl, rfl, HB5.out, hbm, hz5, by have := HZ2.out; omega, HST.out.1, row_below HRW.out HB5.out⟩
  case rest =>
    obtain ⟨bm, rfl, rfl, hbY, hbm1, hbm2, hbx, hrm, hrx⟩ := hcut
    have HBY := Lib.hid (HB2.out.trans (hbY.mono HB2.out.size))
    have HBM := Lib.hid (show W.heap.size ≤ bm from Nat.le_trans HB2.out.size hbm1)
    have HRM := Lib.hid hrm
    have HRX := Lib.hid hrx
    have HNE := Lib.hid hbx
    generalize wc = Y at *
    clear hbY hbm1 hbm2 hbx hrm hrx HS
    have HSY := Lib.hid (HH.out.below HBY.out)
    obtain ⟨hP, hE⟩ := HPE.out
    by_cases hr : e.ix ≤ 4611686018427387840 ∧ e.ix ≤ v.L + 64
    · unfold setM at hP
      unfold setE at hE
      rw [if_pos hr] at hP hE
      have hk := why_kind HW.out
      have x3 : Y.cell? ⟨bx, 3, none⟩ = some (.int .i64 e.kind) := cell_of_row Y bx 3 _ _ _ HRX.out
      by_cases hk2 : e.kind = 2
      · rw [hk2] at x3
        have HP := Lib.hid hP
        have HK2 := Lib.hid (And.intro hr hk2)
        subst hE
        clear hP hr hk hk2
        have xm : ∀ j u, [Value.int .u64 (P.1 : Int), .int .u64 (P.2 : Int)][j]? = some u → (Y).cell? ⟨bm, 0 + j, none⟩ = some u := fun j u hu => by
          rw [cell_of_row _ bm (0 + j) _ _ _ HRM.out, Nat.zero_add, List.getElem?_toArray]
          exact hu
        have HSM := Lib.hid ((HSY.out.row).setMarks P.1 P.2)
        have hth := (HSY.out.row).there (o := 4) (n := 2) (by omega)
        go_wp2_with (first
          | (refine wpList_load_mid rfl _ (.tmp 6) rfl bm 0 rfl [.int .u64 (P.1 : Int), .int .u64 (P.2 : Int)] _ xm Tryz.underlying36 rfl marks_size ?_)
          | (refine wpList_store_mid rfl _ _ _ rfl S 4 #[.int .u64 (P.1 : Int), .int .u64 (P.2 : Int)] rfl rfl hth marks_size (pair_one _ _) ?_)
          | fail)
        go_ret
        refine ⟨0, d, _, fn, rfl, (HSY.out.setRow HSM.out.2 HSM.out.1).wide (by omega) (by omega), (Keeps.of_below HBY.out).grown HSM.out.2 (fun k hk => .inl (by cases hk; exact ⟨HH.out.new.1, HH.out.apart.2.2.2.1⟩)), .inr (.inr (.inl ⟨HW.out, HK2.out.1, HK2.out.2, rfl, rfl, ?_, rfl⟩))⟩
        rw [HP.out]
      · have hk1 : e.kind = 1 := by omega
        rw [hk1] at x3
        obtain ⟨hlen, hc0, hc8, hfn⟩ := why_write HW.out hk1
        have HP := Lib.hid hP
        have HK1 := Lib.hid (And.intro hr hk1)
        have HC := Lib.hid (And.intro hlen (And.intro hc0 (And.intro hc8 hfn)))
        subst hE
        have x6 : Y.cell? ⟨bx, 6, none⟩ = some (.int .u32 (e.f : Int)) := cell_of_row Y bx 6 _ _ _ HRX.out
        have x8 : Y.cell? ⟨bx, 8, none⟩ = some (.string (str e.data)) := cell_of_row Y bx 8 _ _ _ HRX.out
        have hbxl : bx < Y.heap.size := (Array.getElem?_eq_some_iff.1 HRX.out).1
        have hbml : bm < Y.heap.size := (Array.getElem?_eq_some_iff.1 HRM.out).1
        clear hP hr hk hk2 hk1 hlen hc0 hc8 hfn
        go_wp2_with (fail)
        refine wp_segs [([0, 1, 2, 3, 4, 5], 6), ([], 7)] [8] (fun z => z.cell? ⟨bx, 6, none⟩ = some (.int .u32 (e.f : Int)) ∧ z.cell? ⟨bx, 8, none⟩ = some (.string (str e.data))) (by kernel_rfl) (by kernel_rfl) (fun d _ _ _ _ h => by cases d <;> exact h) ⟨x6, x8⟩ ?_
        intro f hf
        have F1 := fun z => (hf z).1
        have F2 := fun z => (hf z).2
        simp only [pickI, Option.toList_some, List.cons_append, List.nil_append, List.getElem?_toArray, List.getElem?_cons_succ, List.getElem?_cons_zero]
        repeat (go_big_quiet_step (fail))
        refine wpQuiet_nil ?_
        clear F1 F2 hf f
        refine seg_op (by simp only [List.getElem?_toArray, List.getElem?_cons_succ, List.getElem?_cons_zero]; rfl) fun K hK => ?_
        go_simp
        refine (scut_any e.data e.c HC.out.1 (by have := HC.out.2.2.1; omega) Y.drew).mono ?_
        rintro e1 w3 ⟨v3, rfl, ho3, hb3⟩
        have hb3' : Below Y.heap.size Y w3 := undrew hb3
        obtain ⟨A3, c3, rfl⟩ := ownsRow_form ho3
        obtain ⟨Lb, hLb⟩ : ∃ Lb, A3 = some ⟨Lb, 0, none⟩ := by
          rcases ho3.2 with ⟨hv, hz⟩ | ⟨g', cap', cur, hv, _⟩
          · have := HC.out.2.1
            omega
          · cases hv
            exact ⟨_, rfl⟩
        subst hLb
        have hLl := ho3.lt Lb rfl
        have HRD := Lib.hid (ownsRow_rd ho3)
        have HB3 := Lib.hid (HBY.out.trans (hb3'.mono HBY.out.size))
        have HLb := Lib.hid (show Y.heap.size ≤ Lb ∧ Lb < w3.heap.size from hLl)
        have HX3 := Lib.hid (HH.out.more (X' := fun i => X i ∨ i = bx ∨ i = bm ∨ i = Lb) HB3.out (fun i hi => by
          have h1 := HBY.out.size
          have h2 := hb3'.size
          have h3 := HBM.out
          have h4 := HZ2.out.1
          have h5 := HLb.out
          rcases hi with hi | rfl | rfl | rfl
          · exact ⟨.inl hi, Nat.lt_of_lt_of_le (HH.out.xlt i hi) HB3.out.size⟩
          · exact ⟨.inr h4, by omega⟩
          · exact ⟨.inr h3, by omega⟩
          · exact ⟨.inr (by omega), h5.2⟩))
        have HRM3 := Lib.hid (row_below HRM.out hb3')
        have HRX3 := Lib.hid (row_below HRX.out hb3')
        refine hK.out _ _ (seg_keep ⟨cell_of_row w3 bx 6 _ _ _ HRX3.out, cell_of_row w3 bx 8 _ _ _ HRX3.out⟩ ?_)
        clear hK K ho3 hb3 hb3' hLl x6 x8
        intro f hf
        refine wpQuiet_nil ?_
        clear hf f
        refine seg_op (by simp only [List.getElem?_toArray, List.getElem?_cons_succ, List.getElem?_cons_zero]; rfl) fun K hK => ?_
        go_simp
        have hF := HF.out
        refine (swrite_any HX3.out (HT.out.below HB3.out) HD.out HM.out.1 HM.out.2 hF.n64 hF.pn hF.ps hF.dn hF.ds hF.f0 hF.f1 Lb c3 e.c e.data HRD.out (.inl (.inr (.inr (.inr rfl)))) HC.out.2.1 HC.out.2.2.1 e.f HC.out.2.2.2).mono ?_
        rintro e1 w5 ⟨ats, hats, rfl, hS5, hK5⟩
        have HA5 := Lib.hid hats
        have HS5 := Lib.hid hS5
        have HK5 := Lib.hid hK5
        have HRM5 := Lib.hid ((off_row hK5 (Array.getElem?_eq_some_iff.1 HRM3.out).1 (.inl (.inr (.inr (.inl rfl))))).trans HRM3.out)
        have HRX5 := Lib.hid ((off_row hK5 (Array.getElem?_eq_some_iff.1 HRX3.out).1 (.inl (.inr (.inl rfl)))).trans HRX3.out)
        have HKW : Hid (Keeps (Off X w) W w5) := Lib.hid ((Keeps.of_below HB3.out).trans (hK5.wide (fun i hi => Off.less (fun i hi => .inl hi) hi)) (fun i hi => .inl hi))
        refine hK.out _ _ (seg_keep ⟨cell_of_row w5 bx 6 _ _ _ HRX5.out, cell_of_row w5 bx 8 _ _ _ HRX5.out⟩ ?_)
        clear hK K hats hS5 hK5 HX3 HRD HRM3 HRX3 hF
        rcases Dv.wrs_pw d v.first ats e.data e.c with he0 | he0
        · have HE0 := Lib.hid he0
          rw [he0]
          clear he0
          intro f hf
          simp only [pickI, Option.toList_some, List.cons_append, List.nil_append, List.getElem?_toArray, List.getElem?_cons_succ, List.getElem?_cons_zero]
          repeat (go_big_quiet_step (fail))
          refine wpQuiet_nil ?_
          clear hf f
          go_wp2_with (fail)
          have y4 : w5.cell? ⟨bx, 4, none⟩ = some (.int .u64 (e.cl : Int)) := cell_of_row w5 bx 4 _ _ _ HRX5.out
          have y5 : w5.cell? ⟨bx, 5, none⟩ = some (.int .u64 (e.rq : Int)) := cell_of_row w5 bx 5 _ _ _ HRX5.out
          have h8 := HS5.out.row.2
          have HU := Lib.hid (addT_ok HF.out.T e.cl e.rq HE.out.rq)
          obtain ⟨U, hU⟩ : ∃ U, U = addT v.T e.cl e.rq := ⟨_, rfl⟩
          have HUE := Lib.hid hU
          rw [← hU] at HU
          clear hU
          refine wp_segs [([0, 1, 2, 3, 5, 6, 7, 8], 4), ([], 9), ([10, 11, 12, 13, 14], 15)] [] (fun z => z.cell? ⟨bx, 4, none⟩ = some (.int .u64 (e.cl : Int)) ∧ z.cell? ⟨bx, 5, none⟩ = some (.int .u64 (e.rq : Int))) (by kernel_rfl) (by kernel_rfl) (fun d _ _ _ _ h => by cases d <;> exact h) ⟨y4, y5⟩ ?_
          intro f hf
          have F1 := fun z => (hf z).1
          have F2 := fun z => (hf z).2
          simp only [pickI, Option.toList_some, List.cons_append, List.nil_append, List.getElem?_toArray, List.getElem?_cons_succ, List.getElem?_cons_zero]
          repeat (go_big_quiet_step (fail))
          refine wpQuiet_nil ?_
          clear F1 F2 hf f
          refine seg_op (by simp only [List.getElem?_toArray, List.getElem?_cons_succ, List.getElem?_cons_zero]; rfl) fun K hK => ?_
          rw [if_pos (by rfl)]
          refine wp_load_mid _ _ rfl S 6 rfl (tcells v.T) _ (w := w5.drew) HS5.out.row.table Tryz.underlying41 rfl (by rw [tabA.size, tcells_len, h8]) ?_
          refine hK.out _ _ (seg_keep ⟨y4, y5⟩ ?_)
          clear hK K
          try go_frame
          intro f hf
          refine wpQuiet_nil ?_
          clear hf f
          refine seg_op (by simp only [List.getElem?_toArray, List.getElem?_cons_succ, List.getElem?_cons_zero]; rfl) fun K hK => ?_
          go_simp
          refine (add8_any v.T e.cl e.rq w5.drew HF.out.T HE.out.rq).mono ?_
          rintro e1 w6 ⟨rfl, hb6⟩
          have hb6' : Below w5.heap.size w5 w6 := undrew hb6
          have HB6 := Lib.hid hb6'
          have HS6 := Lib.hid (HS5.out.below hb6')
          have HRM6 := Lib.hid (row_below HRM5.out hb6')
          have HRX6 := Lib.hid (row_below HRX5.out hb6')
          rw [← HUE.out]
          refine hK.out _ _ (seg_keep ⟨cell_of_row w6 bx 4 _ _ _ HRX6.out, cell_of_row w6 bx 5 _ _ _ HRX6.out⟩ ?_)
          clear hK K hb6 hb6' y4 y5
          generalize (!decide (U = v.T)) = ab
          try go_frame
          intro f hf
          simp only [pickI, Option.toList_some, List.cons_append, List.nil_append, List.getElem?_toArray, List.getElem?_cons_succ, List.getElem?_cons_zero]
          repeat (go_big_quiet_step (fail))
          refine wpQuiet_nil ?_
          clear hf f
          refine seg_op (by simp only [List.getElem?_toArray, List.getElem?_cons_succ, List.getElem?_cons_zero]; rfl) fun K hK => ?_
          rw [if_pos (by rfl)]
          have hU8 : U.length = 8 := HU.out.1
          have HST := Lib.hid (HS6.out.row.setTable U hU8)
          refine wp_store_mid _ _ _ rfl S 6 (tcells U).toArray rfl rfl (HS6.out.row.there (by rw [List.size_toArray, tcells_len, hU8]; decide)) (by rw [tabA.size, List.size_toArray, tcells_len, hU8]) (all_oneCell_toArray (tcells_one U)) ?_
          rw [List.toList_toArray]
          have HS7 := Lib.hid (HS6.out.setRow HST.out.2 HST.out.1)
          have HG7 := Lib.hid HST.out.2
          have hne := HS6.out.apart
          have hsx : S ≠ bx := fun hh => hne.2.2.2.1 (.inr (.inl hh))
          have hsm : S ≠ bm := fun hh => hne.2.2.2.1 (.inr (.inr (.inl hh)))
          have HRM7 := Lib.hid (row_far HRM6.out HST.out.2 (fun hh => hsm (Option.some.inj hh).symm))
          have HRX7 := Lib.hid (row_far HRX6.out HST.out.2 (fun hh => hsx (Option.some.inj hh).symm))
          generalize w6.setCells S 6 (tcells U) = w7 at *
          refine hK.out _ _ (seg_keep ⟨cell_of_row w7 bx 4 _ _ _ HRX7.out, cell_of_row w7 bx 5 _ _ _ HRX7.out⟩ ?_)
          clear hK K HST hne hsx hsm HRM6 HRX6
          try go_frame
          intro f hf
          refine wpQuiet_nil ?_
          clear hf f
          have xm : ∀ j u, [Value.int .u64 (P.1 : Int), .int .u64 (P.2 : Int)][j]? = some u → w7.cell? ⟨bm, 0 + j, none⟩ = some u := fun j u hu => by
            rw [cell_of_row _ bm (0 + j) _ _ _ HRM7.out, Nat.zero_add, List.getElem?_toArray]
            exact hu
          have HSM := Lib.hid (HS7.out.row.setMarks P.1 P.2)
          have hth := HS7.out.row.there (o := 4) (n := 2) (by omega)
          go_wp2_with (first
            | (refine wpList_load_mid rfl _ (.tmp 6) rfl bm 0 rfl [.int .u64 (P.1 : Int), .int .u64 (P.2 : Int)] _ xm Tryz.underlying36 rfl marks_size ?_)
            | (refine wpList_store_mid rfl _ _ _ rfl S 4 #[.int .u64 (P.1 : Int), .int .u64 (P.2 : Int)] rfl rfl hth marks_size (pair_one _ _) ?_)
            | fail)
          go_ret
          have hc8 := HC.out.2.2.1
          have hs := HS7.out.setRow HSM.out.2 HSM.out.1
          rw [HE0.out, if_pos rfl] at hs
          refine ⟨0, _, _, _, rfl, (hs.wide (by omega) (by omega)).less (fun i hi => .inl hi), ((HKW.out.trans (Keeps.of_below (F := Off X w) HB6.out) (fun i hi => .inl hi)).grown HG7.out (fun k hk => .inl (by cases hk; exact ⟨HH.out.new.1, HH.out.apart.2.2.2.1⟩))).grown HSM.out.2 (fun k hk => .inl (by cases hk; exact ⟨HH.out.new.1, HH.out.apart.2.2.2.1⟩)), .inr (.inr (.inr ⟨HW.out, HK1.out.1, HK1.out.2, ats, HA5.out, HE0.out.symm, rfl, fun _ => ⟨?_, rfl⟩, fun h => absurd rfl h⟩))⟩
          rw [HP.out, HUE.out]
        · have HE0 := Lib.hid he0
          rw [he0]
          clear he0
          intro f hf
          simp only [pickI, Option.toList_some, List.cons_append, List.nil_append, List.getElem?_toArray, List.getElem?_cons_succ, List.getElem?_cons_zero]
          repeat (go_big_quiet_step (fail))
          refine wpQuiet_nil ?_
          clear hf f
          go_wp2_with (fail)
          go_ret
          have h8 := HC.out.2.2.1
          have hs := HS5.out
          rw [HE0.out, if_neg (by decide)] at hs
          exact ⟨50, _, v, fn, rfl, (hs.wide (by omega) (by omega)).less (fun i hi => .inl hi), HKW.out, .inr (.inr (.inr ⟨HW.out, HK1.out.1, HK1.out.2, ats, HA5.out, HE0.out.symm, rfl, (fun h => absurd h (by decide)), fun _ => ⟨rfl, rfl⟩⟩))⟩
    · unfold setM at hP
      unfold setE at hE
      rw [if_neg hr] at hP hE
      have HNR := Lib.hid hr
      subst hE
      clear hP hr
      go_wp2_with (fail)
      go_ret
      exact ⟨30, d, v, fn, rfl, HSY.out.wide (by omega) (by omega), Keeps.of_below HBY.out, .inr (.inl ⟨HW.out, HNR.out, rfl, rfl, rfl, rfl⟩)⟩
end Go.Proofs.YtpalmobmabkadaaGreatDoor

namespace Go.Proofs.YtpalmobmabkadaaGreatDoor
open Go.RowKit
set_option maxRecDepth 20000
theorem new_bytes (n : Nat) (x : Int) (k : Nat) : (Dv.new n).bytes x k = List.replicate (64 * k) 0 := by
  induction k with
  | zero => rfl
  | succ k ih =>
    rw [Dv.bytes, ih, show (Dv.new n).seen (x + k) = List.replicate 64 0 from rfl, List.replicate_append_replicate]
    rfl
theorem best_3 : (bestBy 3 (List.replicate (64 * (2 * 3)) 0)).2.1 = 0 := by kernel_rfl
theorem best_4 : (bestBy 4 (List.replicate (64 * (2 * 4)) 0)).2.1 = 0 := by kernel_rfl
theorem best_5 : (bestBy 5 (List.replicate (64 * (2 * 5)) 0)).2.1 = 0 := by kernel_rfl
theorem best_6 : (bestBy 6 (List.replicate (64 * (2 * 6)) 0)).2.1 = 0 := by kernel_rfl
theorem best_7 : (bestBy 7 (List.replicate (64 * (2 * 7)) 0)).2.1 = 0 := by kernel_rfl
theorem best_8 : (bestBy 8 (List.replicate (64 * (2 * 8)) 0)).2.1 = 0 := by kernel_rfl
theorem open_new (n : Nat) (base : Int) (z : Nat) (hz : 3 ≤ z ∧ z ≤ 8) : (openTv base z ((Dv.new n).bytes base (2 * z))).number = 0 := by
  rw [new_bytes]
  show (bestBy z (List.replicate (64 * (2 * z)) 0)).2.1 = 0
  obtain rfl | rfl | rfl | rfl | rfl | rfl : z = 3 ∨ z = 4 ∨ z = 5 ∨ z = 6 ∨ z = 7 ∨ z = 8 := by omega
  · exact best_3
  · exact best_4
  · exact best_5
  · exact best_6
  · exact best_7
  · exact best_8
theorem fit_new (n : Nat) (d : Dv) (base : Int) (h1 : 1 ≤ n) (h2 : n ≤ 64) (hb : 0 ≤ base) (hin : base + sNeed n ≤ d.n) : Fit d (Sv.fresh base n) (fun _ => none) (fun _ => none) where
  n1 := h1
  n64 := h2
  pn := fun _ _ h => by cases h
  ps := fun _ _ h => by cases h
  dn := fun _ _ h => by cases h
  ds := fun _ _ h => by cases h
  f0 := by simp only [Sv.fresh]; omega
  f1 := by
    have hneed : sNeed n = 2 * sSize n + (2 * n + 8) := rfl
    simp only [Sv.fresh]; omega
  B := by simp only [Sv.fresh]; omega
  gd := (⟨by decide, by decide, by decide⟩ : Gd 0 0)
  T := ⟨rfl, fun p hp => by obtain rfl := List.eq_of_mem_replicate hp; exact ⟨by decide, by decide⟩⟩
theorem dl_new (n : Nat) (w : World) (h1 : 1 ≤ n) (hn : n ≤ 65536) : Calls Tryz.prog 11 #[.int .i64 (n : Int)] w fun e w' => ∃ g, e = .returned (.pointer (some ⟨g, 0, none⟩)) ∧ Dl w w' w.heap.size g 0 (Dv.new n) := by
  refine (new_good n w h1 hn).mono ?_
  rintro e w' ⟨F, g, rfl, ⟨bs, bl, v, k, hD, hk, hF⟩, hb⟩
  have hk' : k + (Dv.new n).ws.length ≤ 0 := hk
  exact ⟨g, rfl, fun i => w.heap.size ≤ i, ⟨bs, bl, v, k, hD, hk', Nat.le_refl _, fun i hi => (hD.foot_lt hi).1⟩, fun i hi => hi, hb⟩
def X0 : Nat → Prop := fun _ => False
/-- A store is opened on a device that New made. -/
theorem sopen_new {w W : World} {B g M N : Nat} (h : Dlx X0 w W B g M (Dv.new N)) (base : Int) (n : Nat) (h1 : 1 ≤ n) (h2 : n ≤ 64) (hb : 0 ≤ base) (hin : base + sNeed n ≤ (N : Int)) :
    Calls Tryz.prog 10 #[.pointer (some ⟨g, 0, none⟩), .int .i64 base, .int .u32 (n : Int)] W fun e w' => ∃ T S bn bs t, e = .returned (.tuple #[.pointer (some ⟨S, 0, none⟩), .int .i64 0]) ∧
      Slx X0 w w' B g T S bn bs M 0 0 (Dv.new N) t (Sv.fresh base n) (fun _ => none) (fun _ => none) ∧ Below W.heap.size W w' := by
  refine (store_fresh h rfl base n h1 h2 hb hin (open_new N base (sSize n) (sSize_le h2 |>.imp_left fun h => h))).mono ?_
  rintro e w' ⟨T, S, bn, bs, rfl, hS, hB⟩
  exact ⟨T, S, bn, bs, _, rfl, hS, hB⟩
theorem sdone_nil (w : World) : Calls Tryz.prog 29 #[.pointer none] w fun e w' => e = .returned (tbv T0) ∧ Below w.heap.size w w' := by
  go_enter Tryz.func29, Tryz.ntmps29
  go_wp2_with (first
    | (refine tabA.wpNew rfl rfl ?_; intro W b hN; obtain ⟨hb, hr, hl, hz⟩ := hN)
    | (refine tabA.wpBuild rfl rfl ?_)
    | (refine tabA.wpStore (S := T0) (T := T0) rfl (.tmp 2) (.tmp 5) rfl rfl rfl hr.out rfl rfl ?_; intro W2 hr2 hg2 hz2)
    | fail)
  have hbw : w.heap.size ≤ b := by have := hb.out; omega
  refine bodyPost_ret (results_cell1 (fn := Tryz.f29) rfl _ (a := ⟨b, 0, none⟩) rfl (run_loadVar_row _ b 41 _ _ (0, 0) _ hr2.out tabA.und rfl (by rw [tabA.size]; simp [tcells_len, T0]))) rfl ⟨rfl, hl.grown hg2 hl.size (fun k e => by cases e; exact hbw)⟩
theorem sdone_any {w : World} {S : Nat} {g T : Option Addr} {bn bs : Option Nat} {v : Sv} (h : Srow w S g T bn bs v) : Calls Tryz.prog 29 #[.pointer (some ⟨S, 0, none⟩)] w fun e w' => e = .returned (tbv v.T) ∧ Below w.heap.size w w' := by
  have h8 := h.2
  have HH := Lib.hid h
  clear h
  go_enter Tryz.func29, Tryz.ntmps29
  go_wp2_with (first
    | (refine tabA.wpNew rfl rfl ?_; intro W b hN; obtain ⟨hb, hr, hl, hz⟩ := hN)
    | (refine wpList_load_mid rfl _ _ rfl S 6 rfl (tcells v.T) _ (HH.out.below hl).table Tryz.underlying41 rfl (by rw [tabA.size, tcells_len, h8]) ?_)
    | (refine tabA.wpStore (S := T0) (T := v.T) rfl (.tmp 2) (.tmp 9) rfl rfl rfl hr.out rfl h8 ?_; intro W2 hr2 hg2 hz2)
    | fail)
  have hbw : w.heap.size ≤ b := by have := hb.out; omega
  refine bodyPost_ret (results_cell1 (fn := Tryz.f29) rfl _ (a := ⟨b, 0, none⟩) rfl (run_loadVar_row _ b 41 _ _ (0, 0) _ hr2.out tabA.und rfl (by rw [tabA.size]; simp [tcells_len, h8]))) rfl ⟨rfl, hl.grown hg2 hl.size (fun k e => by cases e; exact hbw)⟩
end Go.Proofs.YtpalmobmabkadaaGreatDoor

namespace Go.Proofs.YtpalmobmabkadaaGreatDoor
open Go.RowKit
set_option maxRecDepth 20000

def lv8 : List UInt8 := [97, 98, 99, 100, 101, 102, 103, 104]
def lv16 : List UInt8 := [0, 0, 0, 0, 0, 0, 0, 0, 97, 98, 99, 100, 101, 102, 103, 104]
def eL : E16 := ⟨2, 0, 0, 1, 1, 5, 3, 1, lv8, none, 0, 0⟩
theorem eL_ok : eL.Ok := ⟨by decide, by decide, by decide, by decide, by decide, by decide, by decide, by decide, by decide⟩
theorem eL_why : whyNot (Sv.fresh 1 8) eL = 0 := by kernel_rfl
theorem first_18 : (Sv.fresh 1 8).first = 7 := by kernel_rfl
/-- What the example's store is behind its Apply. -/
structure LvIs (d : Dv) (v : Sv) (fn : SaysS) : Prop where
  up : d.down = false
  fits : FitsS d v fn
  n : v.n = 8
  txt : d.blks v.first fn 2 2 = lv16
  tok : Tok v.T
  done : at8 v.T 1 (fun p => hasN p 5) = true
  L : v.L < 18446744073709551616
  B : v.B < 18446744073709551616
  hs : Hs v.L v.B 2 = true
theorem tok_0 : Tok T0 := ⟨rfl, fun p hp => by obtain rfl := List.eq_of_mem_replicate hp; exact ⟨by decide, by decide⟩⟩
theorem tok_L : Tok (addT T0 1 5) := addT_ok tok_0 1 5 (by decide)
theorem mset_L : mset 0 0 2 = (0, 2) := by kernel_rfl
theorem L_L : (mset 0 0 2).1 < 18446744073709551616 := by rw [mset_L]; decide
theorem B_L : (mset 0 0 2).2 < 18446744073709551616 := by rw [mset_L]; decide
theorem lives_app {err : Int} {d' : Dv} {v' : Sv} {fn' : SaysS} (h : AppTo (Dv.new 40) (Sv.fresh 1 8) (fun _ => none) (fun _ => none) eL err d' v' fn') : err = 0 ∧ LvIs d' v' fn' := by
  have hr : Room 0 2 := ⟨by decide, by decide⟩
  rcases h with ⟨h, _⟩ | ⟨_, h, _⟩ | ⟨_, _, h, _⟩ | ⟨_, _, _, ats, ha, he, hd, h0, _⟩
  · exact absurd eL_why h
  · exact absurd hr h
  · exact absurd h (by decide)
  obtain ⟨k, hk, hk2, _⟩ := ha.at_ (i := 0) (by decide)
  have hk24 : k < 24 := hk2
  have hw : (Dv.new 40).wrs (Sv.fresh 1 8).first ats eL.data eL.c = (Dv.new 40).write ((Sv.fresh 1 8).first + ats.getD 0 0) lv8 1 := by kernel_rfl
  rw [first_18, hk, Dv.write_one _ rfl rfl _ _ (by decide)] at hw
  rw [first_18] at he hd
  rw [hw] at he hd
  have he : err = 0 := he
  have hd : d' = { Dv.new 40 with ws := [(7 + (k : Int), pad lv8)], done := 1 } := hd
  obtain ⟨rfl, rfl⟩ := h0 he
  subst hd
  have hf1 : ((Sv.fresh 1 8).done (addT (Sv.fresh 1 8).T eL.cl eL.rq) |>.mark (mset (Sv.fresh 1 8).L (Sv.fresh 1 8).B eL.ix).1 (mset (Sv.fresh 1 8).L (Sv.fresh 1 8).B eL.ix).2).first = 7 := first_18
  have hu : ∀ y : Int, upd (fun _ => none) eL.f ats eL.c y = if y = 3 then some (k : Int) else none := by
    intro y
    unfold upd
    show (if (3 : Int) ≤ y ∧ y < 3 + ((1 : Nat) : Int) then _ else none) = _
    by_cases hy : y = 3
    · subst hy
      rw [if_pos (by decide), if_pos rfl]
      exact congrArg some hk
    · rw [if_neg (by omega), if_neg hy]
  refine ⟨he, rfl, ⟨?_, ?_, ?_, ?_⟩, rfl, ?_, tok_L, by kernel_rfl, L_L, B_L, by kernel_rfl⟩
  · intro y x hx
    rw [hu] at hx
    rw [hf1]
    split at hx
    · cases hx
      refine ⟨by omega, ?_, by omega, by omega⟩
      show 7 + (k : Int) + 1 ≤ 40
      omega
    · cases hx
  · rw [hf1]; decide
  · rw [hf1]; show (7 : Int) ≤ 40; decide
  · exact (by decide : 8 ≤ 65536)
  · rw [hf1]
    generalize upd (fun _ => none) eL.f ats eL.c = fn at hu
    simp only [Dv.blks, Dv.blk, hu]
    have e2 : ¬ (((2 + 0 : Nat) : Int) = 3) := by decide
    have e3 : (((2 + 1 : Nat) : Int) = 3) := by decide
    rw [if_neg e2, if_pos e3]
    have hs : ({ Dv.new 40 with ws := [(7 + (k : Int), pad lv8)], done := 1 } : Dv).seen (7 + (k : Int)) = pad lv8 := by
      unfold Dv.seen
      have : lastOf ([] ++ [(7 + (k : Int), pad lv8)]) (7 + (k : Int)) = some (pad lv8) := by rw [lastOf_snoc]; simp
      show (lastOf [(7 + (k : Int), pad lv8)] (7 + (k : Int))).getD _ = _
      rw [List.nil_append] at this
      rw [this]
      rfl
    simp only [hs]
    rfl
theorem build_eL (w : World) : (Instr.build 47 #[(0, .int .u64 2), (3, .int .i64 1), (4, .int .u64 1), (5, .int .u64 5), (6, .agg #[.int .u32 3, .int .u32 1]), (7, .string (str lv8))]).run Tryz.prog w = .ok (.agg (e16cs eL).toArray) w := run_build w _ _ _ (by kernel_rfl)
set_option maxHeartbeats 1000000 in
theorem lives16 (w : World) (hT : Tab w) : Calls Tryz.prog 9 #[] w fun e w' => e = .returned (.bool true) ∧ Below w.heap.size w w' := by
  have HN := Lib.hid (dl_new 40 w (by decide) (by decide))
  have HT := Lib.hid hT
  clear hT
  go_enter Tryz.func9, Tryz.ntmps9
  go_wp2_with (first
    | (go_at_call 11; go_loud (refine HN.out.mono ?_); clear HN; rintro e w1 ⟨g, rfl, hD⟩
       have HO := Lib.hid (sopen_new (hD.dlx (X := X0) (Below.refl _ _) (fun _ h => h.elim)) 1 8 (by decide) (by decide) (by decide) (by decide)))
    | (go_at_call 10; go_loud (refine HO.out.mono ?_); clear HO; rintro e w2 ⟨T, S, bn, bs, t, rfl, hS, hB2⟩)
    | (refine wpL_bldv (by rfl) _ _ #[(0, .int .u64 2), (3, .int .i64 1), (4, .int .u64 1), (5, .int .u64 5), (6, .agg #[.int .u32 3, .int .u32 1]), (7, .string (str lv8))] rfl (by simp only [List.map_toArray, List.map_cons, List.map_nil]; rfl) _ build_eL ?_)
    | fail)
  have hBw := hS.tlx.bel
  refine (sapply_yes hS (fit_new 8 (Dv.new 40) 1 (by decide) (by decide) (by decide) (by decide)) (HT.out.below hBw) rfl (by decide) (by decide) eL eL_ok eL_why).mono ?_
  clear hS hB2 hD hBw
  rintro e w3 ⟨err, d', v', fn', rfl, hS3, _, hA⟩
  obtain ⟨rfl, hL⟩ := lives_app hA
  have HB3 := Lib.hid hS3.tlx.bel
  have hrd := sReads_good hS3 hL.fits 2 2 (by decide) (by decide) ⟨by decide, by rw [hL.n]; decide⟩ hL.up
  rw [hL.txt] at hrd
  have HRD := Lib.hid hrd
  have HROW := Lib.hid hS3.row
  have HLV := Lib.hid (And.intro hL.tok (And.intro hL.L hL.B))
  have HM := Lib.hid (fun W => has_any v'.L v'.B 2 W hL.L hL.B (by decide))
  have HH8 := Lib.hid (fun W => has8_any v'.T 1 5 W hL.tok (by decide))
  rw [hL.done] at HH8
  rw [hL.hs] at HM
  clear hA hS3 hL hrd
  have HSS := Lib.hid (fun W => ssectors_any 8 W)
  have q1 : ((str lv16).toList == (str lv16).toList) = true := beq_self_eq_true _
  have q1b : (str lv16).toList = lv16 := ByteArray.toList_mk _
  go_wp2_with (first
    | (go_at_call 25; go_loud (refine HRD.out.mono ?_); clear HRD; rintro e w4 ⟨rfl, hb4⟩
       have HB4 := Lib.hid (HB3.out.trans (hb4.mono HB3.out.size))
       have HR4 := Lib.hid (HROW.out.below hb4)
       clear hb4)
    | (go_at_call 22; go_loud (refine (HSS.out _).mono ?_); clear HSS; rintro e w5 ⟨rfl, rfl⟩)
    | (go_at_call 29; go_loud (refine (sdone_any HR4.out).mono ?_); rintro e w6 ⟨rfl, hb6⟩
       have HB6 := Lib.hid (HB4.out.trans (hb6.mono HB4.out.size))
       have HR6 := Lib.hid (HR4.out.below hb6)
       clear hb6)
    | (go_at_call 30; go_loud (refine (HH8.out _).mono ?_); clear HH8; rintro e w7 ⟨rfl, hb7⟩
       have HB7 := Lib.hid (HB6.out.trans (hb7.mono HB6.out.size))
       have HR7 := Lib.hid (HR6.out.below hb7)
       clear hb7)
    | (go_at_call 28; go_loud (refine (smarks_any HR7.out).mono ?_); rintro e w8 ⟨rfl, hb8⟩
       have HB8 := Lib.hid (HB7.out.trans (hb8.mono HB7.out.size))
       clear hb8)
    | (go_at_call 31; go_loud (refine (HM.out _).mono ?_); clear HM; rintro e w9 ⟨rfl, hb9⟩
       have HB9 := Lib.hid (HB8.out.trans (hb9.mono HB8.out.size))
       clear hb9)
    | fail)
  go_ret
  exact ⟨rfl, HB9.out⟩
end Go.Proofs.YtpalmobmabkadaaGreatDoor
