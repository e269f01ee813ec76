/- entry.Copy, and entry.Noop. merge.Best. -/
import Derived.Test.YtapfggpeodpflaaMkitM
import Derived.Test.YtapfggpeodpflaaMakeM
namespace Go.Proofs.Ytapfggpeodpflaa
open Go.RowKit
set_option maxRecDepth 20000

/-- The same entry, but for where its looks lie. -/
def En.put (e : En) (A : Option Addr) (c : Nat) : En := ⟨e.ix, e.tm, e.st, e.kd, e.cl, e.rq, e.fr, e.ct, e.da, A, e.bn, c, e.ls⟩
theorem lks_one (ls : List Lk) : ∀ u ∈ lks ls, u.oneCell' = true := by
  intro v hv
  unfold lks at hv
  obtain ⟨e, _, h⟩ := List.mem_flatMap.1 hv
  exact lk_one e v h
theorem En.zero_drop {ls : List Lk} {n : Nat} (_ : ls.length = n) (zs : List Value) (hz : zs.length = n * 4) : lks ls ++ zs.drop (n * 4) = lks ls := by
  rw [List.drop_eq_nil_of_le (by omega), List.append_nil]
theorem set_far {w : World} {g j : Nat} {cs : Array Value} {t : TypeId} {u : Value} (h : w.heap[g]? = some (.cells cs t (0, 0))) : (w.setCell ⟨g, j, none⟩ u).heap[g]? = some (.cells (cs.setIfInBounds j u) t (0, 0)) ∧ w.grownBy (w.setCell ⟨g, j, none⟩ u) (some g) := by
  rw [setCell_eq_setRow w g j cs t (0, 0) u h]
  exact ⟨setRow_heap w g _ _ t _ h, ⟨rfl, rfl, rfl, by simp, fun k _ hk => setRow_other w g k _ (fun e => hk (by rw [e]))⟩⟩
theorem own_ne {k g n c : Nat} (h : k < g) : some k ≠ Value.ownBlock (.slice (some ⟨g, 0, none⟩) n c) := fun e => by
  have : k = g := by simpa [Value.ownBlock] using e
  omega
theorem En.Reads.stays {e : En} {w w' : World} (h : e.Reads w) (k : 0 < e.bn → ∀ x, e.A = some x → x.block < w.heap.size → w'.heap[x.block]? = w.heap[x.block]?) (hz : w.heap.size ≤ w'.heap.size) : e.Reads w' :=
  ⟨h.ix, h.tm, h.st, h.kd, h.look, h.da, (h.rd.stayn (fun hn _ _ hA hb => k hn _ hA hb)).more hz, h.len, h.oks⟩
theorem En.Reads.grown {e : En} {w w' : World} {row : Option Nat} (h : e.Reads w) (hg : w.grownBy w' row) (hne : 0 < e.bn → ∀ x, e.A = some x → row ≠ some x.block) : e.Reads w' :=
  h.stays (fun hn x hA hb => hg.block x.block hb (fun e => hne hn x hA e.symm)) hg.size
theorem En.Reads.in_ {e : En} {w : World} (h : e.Reads w) (hn : 0 < e.bn) {x : Addr} (hA : e.A = some x) : x.block < w.heap.size := by
  obtain ⟨b, o, h1, h2, _⟩ := h.rd.2.2.2 hn
  rw [hA] at h1
  cases h1
  exact h2
set_option maxHeartbeats 2000000 in
theorem copy_any (e : En) (w : World) (h : e.Reads w) (hn : e.bn ≤ 200) :
    Calls Try.prog 33 #[.agg e.cells] w fun r w' => ∃ A c, r = .returned (.agg (e.put A c).cells) ∧ (e.put A c).Reads w' ∧ (∀ x, A = some x → w.heap.size ≤ x.block) ∧ Below w.heap.size w w' := by
  obtain ⟨W, hW, hz, r0, r1, hb⟩ := boxes2 w e.cells #[.int .u64 0, .int .u64 0, .int .u64 0, .int .i64 0, .int .u64 0, .int .u64 0, .int .u32 0, .int .u32 0, .string ⟨#[]⟩, .slice none 0 0] 55 55
  have HH := Lib.hid (h.below hb)
  have HE := Lib.hid h
  have HB := Lib.hid hb
  have hlen := h.len
  have hrd := (h.below hb).rd
  have HRD := Lib.hid hrd
  have R1 := Lib.hid r1
  have R0 := Lib.hid r0
  have HZ := Lib.hid hz
  obtain ⟨ix, tm, st, kd, cl, rq, fr, ct, da, A, bn, bc, ls⟩ := e
  unfold En.put
  dsimp only at *
  have hbi : (bn : Int) ≤ 200 := by omega
  clear h hb hz r0 r1 hrd
  unfold En.cells at *
  dsimp only at *
  go_enter Try.func33, Try.ntmps33
  have hz2 : w.heap.size < W.heap.size := by have := HZ.out; omega
  have hz3 : w.heap.size + 1 < W.heap.size := by have := HZ.out; omega
  have Z2 := Lib.hid hz2
  have Z3 := Lib.hid hz3
  clear hz2 hz3
  go_wp2_with (first
    | (at_make; rw [← hW]; refine wpL_make rfl _ _ _ rfl (base := W.heap.size) E_lk bn rfl rfl rfl rfl (by omega) (by unfold maxLen; omega) (Nat.le_refl _) ?_; intro w2 hown2 hg2
       have r2 := (hg2.block _ Z2.out (fun e => by cases e)).trans R0.out
       have s2 := (hg2.block _ Z3.out (fun e => by cases e)).trans R1.out
       have HB2 := Lib.hid ((Below.refl W.heap.size W).grown hg2 (Nat.le_refl _) (fun k e => by cases e))
       have k9 := cell_of_row w2 w.heap.size 9 _ _ _ r2
       clear hW)
    | (refine wpL_cp (o := ⟨some 11, _, _, _, _, _⟩) (y := .slice A bn bc) (m := bn) rfl (.tmp 8) (.tmp 10) _ _ rfl E_lk rfl rfl hown2 ((HRD.out.below HB2.out).src Try.underlying53 (lks_one _)) (Nat.le_refl _) ?_; intro w3 hown3 hg3
       have r3 := (hg3.block w.heap.size (Nat.lt_of_lt_of_le Z2.out HB2.out.size) (own_ne Z2.out)).trans r2
       have s3 := (hg3.block (w.heap.size + 1) (Nat.lt_of_lt_of_le Z3.out HB2.out.size) (own_ne Z3.out)).trans s2
       have HB3 := Lib.hid (HB2.out.grown hg3 HB2.out.size (fun k e => (hown3.lt k e).1))
       clear k9 r2 s2
       have j9 := cell_of_row w3 w.heap.size 9 _ _ _ r3
       have f9 := frozen_of_row w3 w.heap.size 9 _ _ r3
       have HR4 := Lib.hid (set_far (u := .slice (some ⟨W.heap.size, 0, none⟩) bn bn) (j := 9) r3)
       have HS4 := Lib.hid (HR4.out.2.block (w.heap.size + 1) (Array.getElem?_eq_some_iff.1 s3).1 (fun e => by simp at e) |>.trans s3))
    | (refine wpL_midk rfl _ (.tmp 1) rfl _ rfl (.agg (En.cells ⟨ix, tm, st, kd, cl, rq, fr, ct, da, some ⟨W.heap.size, 0, none⟩, bn, bn, ls⟩)) (e_loads HR4.out.1) ?_
       intro K hK
       refine hK _ _ ?_
       clear hK K
       refine wpL_estore rfl (.tmp 2) (.tmp 14) rfl (e := ⟨ix, tm, st, kd, cl, rq, fr, ct, da, some ⟨W.heap.size, 0, none⟩, bn, bn, ls⟩) (d := Ez) rfl rfl HS4.out ?_
       intro W5 h5 hg5 hz5)
    | fail)
  have hp0 : W.heap.size ≠ w.heap.size := by have := HZ.out; omega
  have hp1 : W.heap.size ≠ w.heap.size + 1 := by have := HZ.out; omega
  have hlt3 := (Array.getElem?_eq_some_iff.1 s3).1
  rw [En.zero_drop hlen _ hown2.1] at hown3
  have hlo := (hown3.lt W.heap.size rfl).2
  have hg4 := HR4.out.2
  have hsz := hg4.size
  have hrd3 := ownsRow_rd hown3
  refine bodyPost_ret (results_cell_row rfl _ W5 (w.heap.size + 1) 55 _ (0, 0) _ rfl h5.out Try.underlying55 rfl (by rw [e_size]; rfl)) rfl ⟨some ⟨W.heap.size, 0, none⟩, bn, rfl, ?_, (fun x e => by cases e; exact HB.out.size), ?_⟩
  · have h0 := HE.out
    refine ⟨h0.ix, h0.tm, h0.st, h0.kd, h0.look, h0.da, ?_, h0.len, h0.oks⟩
    refine (hrd3.stay (w' := W5) fun b o e => ?_).more ?_
    · cases e
      exact (hg5.block _ (Nat.lt_of_lt_of_le hlo hsz) (fun e => hp1 (by simpa using e))).trans (hg4.block _ hlo (fun e => hp0 (by simpa using e)))
    · exact Nat.le_trans hsz hg5.size
  · have hbw : Below w.heap.size w w3 := HB.out.trans (HB3.out.mono HB.out.size)
    exact (hbw.grown hg4 hbw.size (fun k e => by cases e; exact Nat.le_refl _)).grown hg5 (Nat.le_trans hbw.size hsz) (fun k e => by cases e; exact Nat.le_succ _)

theorem noop_any (ix tm st : Nat) (w : World) :
    Calls Try.prog 39 #[.int .u64 (ix : Int), .int .u64 (tm : Int), .int .u64 (st : Int)] w fun r w' => r = .returned (.agg (En.cells ⟨ix, tm, st, 2, 0, 0, 0, 0, [], none, 0, 0, []⟩)) ∧ Below w.heap.size w w' := by
  unfold En.cells
  dsimp only
  go_enter Try.func39, Try.ntmps39
  go_wp2
  refine bodyPost_ret (results_cell_row rfl _ _ w.heap.size 55 _ (0, 0) _ rfl (heap_alloc_new w _) Try.underlying55 rfl (by rw [e_size]; rfl)) rfl ⟨rfl, (Below.refl _ _).alloc (Nat.le_refl _) _⟩
end Go.Proofs.Ytapfggpeodpflaa

namespace Go.Proofs.Ytapfggpeodpflaa
open Go.RowKit
set_option maxRecDepth 20000

/-- Best's boxes: the index, the lists, what is told, the best so far, and whether there is one. -/
structure BJ (w wr : World) (p2 p3 p4 p6 p7 : Nat) (ix : Nat) (A : Option Addr) (n c : Nat) (o : Option En) : Prop where
  bel : Below w.heap.size w wr
  r2 : wr.heap[p2]? = some (.cells #[.int .u64 (ix : Int)] 22 (0, 0))
  r3 : wr.heap[p3]? = some (.cells #[.slice A n c] 29 (0, 0))
  r4 : ERow wr p4 Ez
  r6 : ERow wr p6 (curE o)
  r7 : wr.heap[p7]? = some (.cells #[.bool o.isSome] 4 (0, 0))
theorem BJ.below {w wr w' : World} {p2 p3 p4 p6 p7 ix : Nat} {A : Option Addr} {n c : Nat} {o : Option En} (h : BJ w wr p2 p3 p4 p6 p7 ix A n c o) (hb : Below wr.heap.size wr w') : BJ w w' p2 p3 p4 p6 p7 ix A n c o :=
  ⟨h.bel.trans (hb.mono h.bel.size), row_below h.r2 hb, row_below h.r3 hb, row_below h.r4 hb, row_below h.r6 hb, row_below h.r7 hb⟩
/-- The boxes' numbers. -/
structure BP (w : World) (p2 p3 p4 p6 p7 : Nat) : Prop where
  h2 : p2 = w.heap.size
  h3 : p3 = w.heap.size + 1
  h4 : p4 = w.heap.size + 2
  h6 : p6 = w.heap.size + 3
  h7 : p7 = w.heap.size + 4
theorem BJ.put {w wr w1 w2 : World} {p2 p3 p4 p6 p7 ix : Nat} {A : Option Addr} {n c : Nat} {o : Option En} {x : En} (h : BJ w wr p2 p3 p4 p6 p7 ix A n c o) (hp : BP w p2 p3 p4 p6 p7)
    (h6 : w1.heap[p6]? = some (.cells x.cells 55 (0, 0))) (hg6 : wr.grownBy w1 (some p6)) (h7 : w2.heap[p7]? = some (.cells #[.bool true] 4 (0, 0))) (hg7 : w1.grownBy w2 (some p7)) : BJ w w2 p2 p3 p4 p6 p7 ix A n c (some x) := by
  obtain ⟨q2, q3, q4, q6, q7⟩ := hp
  have keep : ∀ b o, wr.heap[b]? = some o → b ≠ p6 → b ≠ p7 → w2.heap[b]? = some o := fun b o hb n6 n7 => by
    have hl := (Array.getElem?_eq_some_iff.1 hb).1
    exact (hg7.block b (Nat.lt_of_lt_of_le hl hg6.size) (fun e => n7 (by simpa using e))).trans ((hg6.block b hl (fun e => n6 (by simpa using e))).trans hb)
  have ne67 : p6 ≠ p7 := by omega
  have l6 := (Array.getElem?_eq_some_iff.1 h6).1
  exact ⟨(h.bel.grown hg6 h.bel.size (fun k e => by cases e; omega)).grown hg7 (Nat.le_trans h.bel.size hg6.size) (fun k e => by cases e; omega),
    keep _ _ h.r2 (by omega) (by omega), keep _ _ h.r3 (by omega) (by omega), keep _ _ h.r4 (by omega) (by omega), (hg7.block p6 l6 (fun e => ne67 (by simpa using e))).trans h6, h7⟩
theorem BJ.row7 {w wr w1 : World} {p2 p3 p4 p6 p7 ix : Nat} {A : Option Addr} {n c : Nat} {o : Option En} (h : BJ w wr p2 p3 p4 p6 p7 ix A n c o) (hp : BP w p2 p3 p4 p6 p7) (hg6 : wr.grownBy w1 (some p6)) : w1.heap[p7]? = some (.cells #[.bool o.isSome] 4 (0, 0)) := by
  obtain ⟨q2, q3, q4, q6, q7⟩ := hp
  have ne67 : p7 ≠ p6 := by omega
  exact (hg6.block p7 (Array.getElem?_eq_some_iff.1 h.r7).1 (fun e => ne67 (by simpa using e))).trans h.r7
theorem curE_reads {o : Option En} {w : World} (h : ∀ e, o = some e → e.Reads w) : (curE o).Reads w := by
  cases o with
  | none => exact enNil_reads w
  | some e => exact h e rfl
/-- The best of some lists and a part of the next one. -/
def upBest (Ls : List Li) (ix i j : Nat) (l : Li) : Option En := (l.es.take j).foldl (bstep (vd (flat Ls)) ix) (bestOf (vd (flat Ls)) ix (flat (Ls.take i)))
theorem upBest_mem {Ls : List Li} {ix i j : Nat} {l : Li} {e : En} (hl : Ls[i]? = some l) (h : upBest Ls ix i j l = some e) : e ∈ flat Ls := by
  unfold upBest at h
  rcases fold_mem _ _ _ h with h1 | h1
  · have := bestOf_mem h1
    unfold flat at this ⊢
    obtain ⟨m, hm, he⟩ := List.mem_flatMap.1 this
    exact List.mem_flatMap.2 ⟨m, List.mem_of_mem_take hm, he⟩
  · exact List.mem_flatMap.2 ⟨l, List.mem_of_getElem? hl, List.mem_of_mem_take h1⟩
theorem flat_reads {w : World} {A : Option Addr} {n c : Nat} {Ls : List Li} (h : Slc Li.lay w A n c Ls) : ∀ e ∈ flat Ls, e.Reads w := fun e he => by
  unfold flat at he
  obtain ⟨l, hl, he⟩ := List.mem_flatMap.1 he
  exact (show Ents w l.A l.n l.c l.es from h.reads l hl).reads e he
/-- What Best tells: the best one, but for where its looks lie. -/
def TBest (w : World) (o : Option En) (r : Ending) (w' : World) : Prop := ∃ A c, r = .returned (.tuple #[.agg ((curE o).put A c).cells, .bool o.isSome]) ∧ ((curE o).put A c).Reads w' ∧ (∀ x, A = some x → w.heap.size ≤ x.block) ∧ Below w.heap.size w w'

theorem bboxes (w : World) (ix : Nat) (A : Option Addr) (n c : Nat) : ∃ W p2 p3 p4 p6 p7, W = ((((w.alloc (.cells #[.int .u64 (ix : Int)] 22)).alloc (.cells #[.slice A n c] 29)).alloc (.cells #[.int .u64 0, .int .u64 0, .int .u64 0, .int .i64 0, .int .u64 0, .int .u64 0, .int .u32 0, .int .u32 0, .string ⟨#[]⟩, .slice none 0 0] 55)).alloc (.cells #[.int .u64 0, .int .u64 0, .int .u64 0, .int .i64 0, .int .u64 0, .int .u64 0, .int .u32 0, .int .u32 0, .string ⟨#[]⟩, .slice none 0 0] 55)).alloc (.cells #[.bool false] 4) ∧
    Hid (BP w p2 p3 p4 p6 p7) ∧ Hid (BJ w W p2 p3 p4 p6 p7 ix A n c none) := by
  refine ⟨_, _, _, _, _, _, rfl, Lib.hid ⟨rfl, rfl, rfl, rfl, rfl⟩, Lib.hid ⟨?_, ?_, ?_, ?_, ?_, ?_⟩⟩
  · exact (((((Below.refl _ _).alloc (Nat.le_refl _) _).alloc (by simp) _).alloc (by simp <;> omega) _).alloc (by simp <;> omega) _).alloc (by simp <;> omega) _
  · exact row_old _ (row_old _ (row_old _ (row_old _ (row_here _ _ (by simp)))))
  · exact row_old _ (row_old _ (row_old _ (row_here _ _ (by simp))))
  · exact row_old _ (row_old _ (row_here _ _ (by simp)))
  · exact row_old _ (row_here _ _ (by simp))
  · exact row_here _ _ (by simp)
set_option maxHeartbeats 8000000 in
theorem best_any {w : World} {A : Option Addr} {n c : Nat} {Ls : List Li} (h : Slc Li.lay w A n c Ls) (hf : ∀ e ∈ flat Ls, e.bn ≤ 200) (ix : Nat) (hix : ix < 18446744073709551616) :
    Calls Try.prog 38 #[.int .u64 (ix : Int), .slice A n c] w (TBest w (bst Ls ix)) := by
  have hcap := h.rd.2.1
  have hnc := h.rd.1
  have hnm : (n : Int) ≤ 9223372036854775807 := by unfold maxLen at hcap; omega
  have HH := Lib.hid h
  have HF := Lib.hid hf
  have HX := Lib.hid hix
  clear h hcap hnc hf hix
  go_enter Try.func38, Try.ntmps38
  obtain ⟨W, p2, p3, p4, p6, p7, hW, HP, HJ⟩ := bboxes w ix A n c
  obtain ⟨q2, q3, q4, q6, q7⟩ := HP.out
  go_wp2_with (fail)
  rw [← hW, ← q7, ← q6, ← q4, ← q3, ← q2]
  clear hW q2 q3 q4 q6 q7
  go_loopw [10, 16, 22] (fun _ ir _ wr => ∃ (i : Nat), i ≤ n ∧ ir = .int .i64 (i : Int) ∧ Hid (BJ w wr p2 p3 p4 p6 p7 ix A n c (bestOf (vd (flat Ls)) ix (flat (Ls.take i))))) (fun _ ir _ _ => n - (intOf ir).toNat)
  case atStart => exact ⟨0, Nat.zero_le _, rfl, HJ⟩
  case round =>
    obtain ⟨i, hi, rfl, HB⟩ := hrel
    by_cases hlt : i < n
    · obtain ⟨l0, hl⟩ : ∃ l0, Ls[i]? = some l0 := ⟨_, List.getElem?_eq_getElem (by have := HH.out.len; omega)⟩
      obtain ⟨b, o, hA, hbb, hcc⟩ := HH.out.at_ (by omega)
      subst hA
      have hrd : Ents w l0.A l0.n l0.c l0.es := HH.out.reads l0 (List.mem_of_getElem? hl)
      have k0 : wr.cell? ⟨b, o + i, none⟩ = some (.slice l0.A l0.n l0.c) := (HB.out.bel.cell (p := ⟨b, o + i, none⟩) hbb).trans (by have := hcc i l0 hl 0 (.slice l0.A l0.n l0.c) rfl; rwa [Nat.mul_one, Nat.add_zero] at this)
      have HL := Lib.hid hl
      have HS := Lib.hid (flat_snoc Ls i l0 hl)
      have HE := Lib.hid hrd
      have hlti : (i : Int) < (n : Int) := by omega
      have hin : (i : Int) ≤ 9223372036854775806 := by omega
      have hcl := hrd.rd.2.1
      have hncl := hrd.rd.1
      have hnl : (l0.n : Int) ≤ 9223372036854775807 := by unfold maxLen at hcl; omega
      clear hcc hl hrd hcl hncl
      have HU := Lib.hid (fun j e (h : upBest Ls ix i j l0 = some e) => flat_reads HH.out e (upBest_mem HL.out h))
      have hst : ∀ j e, l0.es[j]? = some e → upBest Ls ix i (j + 1) l0 = if btr (vd (flat Ls)) ix (upBest Ls ix i j l0) e then some e else upBest Ls ix i j l0 := fun j e he => fold_take he
      have HST := Lib.hid hst
      have HEND := Lib.hid (show upBest Ls ix i l0.n l0 = bestOf (vd (flat Ls)) ix (flat (Ls.take (i + 1))) from by
        unfold upBest
        rw [HS.out, bestOf_snoc, List.take_of_length_le (Nat.le_of_eq HE.out.len)])
      clear hst HS HL
      obtain ⟨wo, rfl⟩ : ∃ wo : World, wo = wr := ⟨_, rfl⟩
      go_wp2_with (fail)
      go_loopw [22] (fun jr wr => ∃ (j : Nat), j ≤ l0.n ∧ jr = .int .i64 (j : Int) ∧ Hid (BJ w wr p2 p3 p4 p6 p7 ix (some ⟨b, o, none⟩) n c (upBest Ls ix i j l0))) (fun jr _ => l0.n - (intOf jr).toNat)
      case atStart => exact ⟨0, Nat.zero_le _, rfl, HB⟩
      case round =>
        clear HB k0
        obtain ⟨j, hj, rfl, HB⟩ := hrel
        by_cases hjl : j < l0.n
        · obtain ⟨e0, he⟩ : ∃ e0, l0.es[j]? = some e0 := ⟨_, List.getElem?_eq_getElem (by have := HE.out.len; omega)⟩
          obtain ⟨b1, o1, hA1, hb1b, hc1⟩ := HE.out.rd.2.2.2 (by omega)
          have hce := fun c u (hu : e0.cells[c]? = some u) => (HB.out.bel.cell (p := ⟨b1, o1 + (j * 10 + c), none⟩) hb1b).trans (hc1 _ _ (ens_get l0.es j _ he c u hu))
          have hre := HE.out.reads e0 (List.mem_of_getElem? he)
          have HT := Lib.hid (HST.out j e0 he)
          have HBA := Lib.hid (fun cs : Obj => HB.out.below ((Below.refl wr.heap.size wr).alloc (Nat.le_refl _) cs))
          have HCA := Lib.hid (fun cs : Obj => better_any (HH.out.below (HBA.out cs).bel) e0 (hre.below (HBA.out cs).bel) ix HX.out (upBest Ls ix i j l0) ((curE_reads (HU.out j)).below (HBA.out cs).bel) p2 p3 p6 p7 (HBA.out cs).r2 (HBA.out cs).r3 (HBA.out cs).r6 (HBA.out cs).r7)
          have HNR := Lib.hid (fun cs : Obj => heap_alloc_new wr cs)
          have hltj : (j : Int) < (l0.n : Int) := by omega
          have hinj : (j : Int) ≤ 9223372036854775806 := by omega
          obtain ⟨T, hT⟩ : ∃ T, btr (vd (flat Ls)) ix (upBest Ls ix i j l0) e0 = T := ⟨_, rfl⟩
          rw [hT] at HT HCA
          have HLJ := Lib.hid hjl
          clear hc1 he hre HB hT hjl
          generalize upBest Ls ix i j l0 = O at *
          obtain ⟨ixx, tm, st, kd, cl, rq, fr, ct, da, A1, bn, bc, ls⟩ := e0
          obtain ⟨A0, n0, c0, es0⟩ := l0
          dsimp only at hA1
          subst hA1
          unfold En.cells at hce HCA
          dsimp only at *
          have k0 := hce 0 _ rfl
          have k1 := hce 1 _ rfl
          have k2 := hce 2 _ rfl
          have k3 := hce 3 _ rfl
          have k4 := hce 4 _ rfl
          have k5 := hce 5 _ rfl
          have k6 := hce 6 _ rfl
          have k7 := hce 7 _ rfl
          have k8 := hce 8 _ rfl
          have k9 := hce 9 _ rfl
          try dsimp only at k0 k1 k2 k3 k4 k5 k6 k7 k8 k9
          simp only [← Nat.add_assoc, Nat.add_zero] at k0 k1 k2 k3 k4 k5 k6 k7 k8 k9
          clear hce
          cases T
          · go_wp2_with (first
              | (go_at_call 50; refine (HCA.out _).mono ?_; rintro e w1 ⟨rfl, hb1⟩)
              | fail)
            go_roundw
            case rel => exact ⟨j + 1, by have := HLJ.out; omega, by go_num, Lib.hid (by rw [HT.out]; exact (HBA.out _).below hb1)⟩
            case measure => have := HLJ.out; simp [intOf]; omega
          · go_wp2_with (first
              | (go_at_call 50; refine (HCA.out _).mono ?_; rintro e w1 ⟨rfl, hb1⟩
                 have hrow := row_below (HNR.out (.cells #[.int .u64 (ixx : Int), .int .u64 (tm : Int), .int .u64 (st : Int), .int .i64 kd, .int .u64 (cl : Int), .int .u64 (rq : Int), .int .u32 (fr : Int), .int .u32 (ct : Int), .string (str da), .slice A1 bn bc] 55)) hb1
                 have e0 := cell_of_row w1 _ 0 _ _ _ hrow
                 have e1 := cell_of_row w1 _ 1 _ _ _ hrow
                 have e2 := cell_of_row w1 _ 2 _ _ _ hrow
                 have e3 := cell_of_row w1 _ 3 _ _ _ hrow
                 have e4 := cell_of_row w1 _ 4 _ _ _ hrow
                 have e5 := cell_of_row w1 _ 5 _ _ _ hrow
                 have e6 := cell_of_row w1 _ 6 _ _ _ hrow
                 have e7 := cell_of_row w1 _ 7 _ _ _ hrow
                 have e8 := cell_of_row w1 _ 8 _ _ _ hrow
                 have e9 := cell_of_row w1 _ 9 _ _ _ hrow
                 have HB1 := Lib.hid ((HBA.out _).below hb1)
                 clear hb1 hrow)
              | (refine wpL_estore rfl (.tmp 6) (.tmp 29) rfl (e := ⟨ixx, tm, st, kd, cl, rq, fr, ct, da, A1, bn, bc, ls⟩) (d := curE O) rfl rfl HB1.out.r6 ?_
                 intro W5 h5 hg5 hz5
                 have h7' := HB1.out.row7 HP.out hg5)
              | (refine wpL_ostore rfl _ (.tmp 7) (.const (.bool true)) rfl rfl rfl h7' (by kernel_rfl) rfl ?_
                 intro W6 h6 hg6 hz6)
              | fail)
            go_roundw
            case rel => exact ⟨j + 1, by have := HLJ.out; omega, by go_num, Lib.hid (by rw [HT.out]; exact HB1.out.put HP.out h5.out hg5 h6.out hg6)⟩
            case measure => have := HLJ.out; simp [intOf]; omega
        · obtain rfl : j = l0.n := by omega
          rw [HEND.out] at HB
          go_wp2
          go_roundw
          case rel => exact ⟨i + 1, by omega, by go_num, HB⟩
          case measure => simp [intOf]; omega
    · obtain rfl : i = n := by omega
      rw [flat_all Ls i (by have := HH.out.len; omega)] at HB
      have hbs : bestOf (vd (flat Ls)) ix (flat Ls) = bst Ls ix := rfl
      rw [hbs] at HB
      have HR := Lib.hid (fun e (h : bst Ls ix = some e) => And.intro (flat_reads HH.out e (bestOf_mem h)) (HF.out e (bestOf_mem h)))
      clear hbs
      unfold TBest
      generalize bst Ls ix = O at *
      have c7 := cell_of_row wr p7 0 _ _ _ HB.out.r7
      cases O with
      | none =>
        go_wp2_with (first
          | (refine wpL_ebuild rfl rfl ?_)
          | (refine wpL_estore rfl (.tmp 4) (.tmp 34) rfl (e := Ez) (d := Ez) rfl rfl HB.out.r4 ?_; intro W9 hr9 hg9 hz9)
          | fail)
        have hp4 : w.heap.size ≤ p4 := by have := HP.out.h4; omega
        refine bodyPost_ret (results_row_tmp rfl _ p4 55 _ (0, 0) _ rfl hr9.out Try.underlying55 rfl (by rw [e_size]; rfl)) rfl ⟨none, 0, rfl, enNil_reads _, (fun _ e => by cases e), HB.out.bel.grown hg9 HB.out.bel.size (fun k e => by cases e; exact hp4)⟩
      | some e0 =>
        obtain ⟨hr0, hn0⟩ := HR.out e0 rfl
        have HC := Lib.hid (copy_any e0 wr (hr0.below HB.out.bel) hn0)
        have hp4 : w.heap.size ≤ p4 := by have := HP.out.h4; omega
        have H4 := Lib.hid hp4
        clear hr0 hn0 hp4
        go_wp2_with (first
          | (refine wpL_midk rfl _ (.tmp 6) rfl _ rfl (.agg e0.cells) (e_loads HB.out.r6) ?_; intro K hK; go_simp; refine hK _ _ ?_; clear hK K)
          | (go_at_call 33; refine HC.out.mono ?_; rintro e w1 ⟨A9, c9, rfl, hr9, hA9, hb1⟩
             have HA9 := Lib.hid hA9
             have HB1 := Lib.hid (HB.out.below hb1)
             have HR9 := Lib.hid hr9
             clear hb1 hr9 hA9)
          | (refine wpL_estore rfl (.tmp 4) (.tmp 36) rfl (e := e0.put A9 c9) (d := Ez) rfl rfl HB1.out.r4 ?_; intro W9 hr9 hg9 hz9)
          | fail)
        refine bodyPost_ret (results_row_tmp rfl _ p4 55 _ (0, 0) _ rfl hr9.out Try.underlying55 rfl (by rw [e_size]; rfl)) rfl ⟨A9, c9, rfl, ?_, (fun x e => Nat.le_trans HB.out.bel.size (HA9.out x e)), HB1.out.bel.grown hg9 HB1.out.bel.size (fun k e => by cases e; exact H4.out)⟩
        exact HR9.out.grown hg9 (fun _ x e e4 => by have h1 := HA9.out x e; have h2 := (Array.getElem?_eq_some_iff.1 HB.out.r4).1; cases e4; omega)
end Go.Proofs.Ytapfggpeodpflaa
