/- entry.Copy, and entry.Noop. -/
import Derived.Test.YtenloljcaolkfaaMkit
import Derived.Test.YtenloljcaolkfaaMake
namespace Go.Proofs.Ytenloljcaolkfaa
open Go.RowKit
set_option maxRecDepth 20000

/-- The same entry, but for where its looks lie. -/
def En.put (e : En) (A : Option Addr) (c : Nat) : En := ⟨e.ix, e.tm, e.st, e.kd, e.cl, e.rq, e.fr, e.ct, e.da, A, e.bn, c, e.ls⟩
theorem lks_one (ls : List Lk) : ∀ u ∈ lks ls, u.oneCell' = true := by
  intro v hv
  unfold lks at hv
  obtain ⟨e, _, h⟩ := List.mem_flatMap.1 hv
  exact lk_one e v h
theorem En.zero_drop {ls : List Lk} {n : Nat} (_ : ls.length = n) (zs : List Value) (hz : zs.length = n * 4) : lks ls ++ zs.drop (n * 4) = lks ls := by
  rw [List.drop_eq_nil_of_le (by omega), List.append_nil]
theorem set_far {w : World} {g j : Nat} {cs : Array Value} {t : TypeId} {u : Value} (h : w.heap[g]? = some (.cells cs t (0, 0))) : (w.setCell ⟨g, j, none⟩ u).heap[g]? = some (.cells (cs.setIfInBounds j u) t (0, 0)) ∧ w.grownBy (w.setCell ⟨g, j, none⟩ u) (some g) := by
  rw [setCell_eq_setRow w g j cs t (0, 0) u h]
  exact ⟨setRow_heap w g _ _ t _ h, ⟨rfl, rfl, rfl, by simp, fun k _ hk => setRow_other w g k _ (fun e => hk (by rw [e]))⟩⟩
theorem own_ne {k g n c : Nat} (h : k < g) : some k ≠ Value.ownBlock (.slice (some ⟨g, 0, none⟩) n c) := fun e => by
  have : k = g := by simpa [Value.ownBlock] using e
  omega
theorem En.Reads.stays {e : En} {w w' : World} (h : e.Reads w) (k : 0 < e.bn → ∀ x, e.A = some x → x.block < w.heap.size → w'.heap[x.block]? = w.heap[x.block]?) (hz : w.heap.size ≤ w'.heap.size) : e.Reads w' :=
  ⟨h.ix, h.tm, h.st, h.kd, h.look, h.da, (h.rd.stayn (fun hn _ _ hA hb => k hn _ hA hb)).more hz, h.len, h.oks⟩
theorem En.Reads.grown {e : En} {w w' : World} {row : Option Nat} (h : e.Reads w) (hg : w.grownBy w' row) (hne : 0 < e.bn → ∀ x, e.A = some x → row ≠ some x.block) : e.Reads w' :=
  h.stays (fun hn x hA hb => hg.block x.block hb (fun e => hne hn x hA e.symm)) hg.size
theorem En.Reads.in_ {e : En} {w : World} (h : e.Reads w) (hn : 0 < e.bn) {x : Addr} (hA : e.A = some x) : x.block < w.heap.size := by
  obtain ⟨b, o, h1, h2, _⟩ := h.rd.2.2.2 hn
  rw [hA] at h1
  cases h1
  exact h2
set_option maxHeartbeats 2000000 in
theorem copy_any (e : En) (w : World) (h : e.Reads w) (hn : e.bn ≤ 200) :
    Calls Try.prog 33 #[.agg e.cells] w fun r w' => ∃ A c, r = .returned (.agg (e.put A c).cells) ∧ (e.put A c).Reads w' ∧ (∀ x, A = some x → w.heap.size ≤ x.block) ∧ Below w.heap.size w w' := by
  obtain ⟨W, hW, hz, r0, r1, hb⟩ := boxes2 w e.cells #[.int .u64 0, .int .u64 0, .int .u64 0, .int .i64 0, .int .u64 0, .int .u64 0, .int .u32 0, .int .u32 0, .string ⟨#[]⟩, .slice none 0 0] 55 55
  have HH := Lib.hid (h.below hb)
  have HE := Lib.hid h
  have HB := Lib.hid hb
  have hlen := h.len
  have hrd := (h.below hb).rd
  have HRD := Lib.hid hrd
  have R1 := Lib.hid r1
  have R0 := Lib.hid r0
  have HZ := Lib.hid hz
  obtain ⟨ix, tm, st, kd, cl, rq, fr, ct, da, A, bn, bc, ls⟩ := e
  unfold En.put
  dsimp only at *
  have hbi : (bn : Int) ≤ 200 := by omega
  clear h hb hz r0 r1 hrd
  unfold En.cells at *
  dsimp only at *
  go_enter Try.func33, Try.ntmps33
  have hz2 : w.heap.size < W.heap.size := by have := HZ.out; omega
  have hz3 : w.heap.size + 1 < W.heap.size := by have := HZ.out; omega
  have Z2 := Lib.hid hz2
  have Z3 := Lib.hid hz3
  clear hz2 hz3
  go_wp2_with (first
    | (at_make; rw [← hW]; refine wpL_make rfl _ _ _ rfl (base := W.heap.size) E_lk bn rfl rfl rfl rfl (by omega) (by unfold maxLen; omega) (Nat.le_refl _) ?_; intro w2 hown2 hg2
       have r2 := (hg2.block _ Z2.out (fun e => by cases e)).trans R0.out
       have s2 := (hg2.block _ Z3.out (fun e => by cases e)).trans R1.out
       have HB2 := Lib.hid ((Below.refl W.heap.size W).grown hg2 (Nat.le_refl _) (fun k e => by cases e))
       have k9 := cell_of_row w2 w.heap.size 9 _ _ _ r2
       clear hW)
    | (refine wpL_cp (o := ⟨some 11, _, _, _, _, _⟩) (y := .slice A bn bc) (m := bn) rfl (.tmp 8) (.tmp 10) _ _ rfl E_lk rfl rfl hown2 ((HRD.out.below HB2.out).src Try.underlying53 (lks_one _)) (Nat.le_refl _) ?_; intro w3 hown3 hg3
       have r3 := (hg3.block w.heap.size (Nat.lt_of_lt_of_le Z2.out HB2.out.size) (own_ne Z2.out)).trans r2
       have s3 := (hg3.block (w.heap.size + 1) (Nat.lt_of_lt_of_le Z3.out HB2.out.size) (own_ne Z3.out)).trans s2
       have HB3 := Lib.hid (HB2.out.grown hg3 HB2.out.size (fun k e => (hown3.lt k e).1))
       clear k9 r2 s2
       have j9 := cell_of_row w3 w.heap.size 9 _ _ _ r3
       have f9 := frozen_of_row w3 w.heap.size 9 _ _ r3
       have HR4 := Lib.hid (set_far (u := .slice (some ⟨W.heap.size, 0, none⟩) bn bn) (j := 9) r3)
       have HS4 := Lib.hid (HR4.out.2.block (w.heap.size + 1) (Array.getElem?_eq_some_iff.1 s3).1 (fun e => by simp at e) |>.trans s3))
    | (refine wpL_midk rfl _ (.tmp 1) rfl _ rfl (.agg (En.cells ⟨ix, tm, st, kd, cl, rq, fr, ct, da, some ⟨W.heap.size, 0, none⟩, bn, bn, ls⟩)) (e_loads HR4.out.1) ?_
       intro K hK
       refine hK _ _ ?_
       clear hK K
       refine wpL_estore rfl (.tmp 2) (.tmp 14) rfl (e := ⟨ix, tm, st, kd, cl, rq, fr, ct, da, some ⟨W.heap.size, 0, none⟩, bn, bn, ls⟩) (d := Ez) rfl rfl HS4.out ?_
       intro W5 h5 hg5 hz5)
    | fail)
  have hp0 : W.heap.size ≠ w.heap.size := by have := HZ.out; omega
  have hp1 : W.heap.size ≠ w.heap.size + 1 := by have := HZ.out; omega
  have hlt3 := (Array.getElem?_eq_some_iff.1 s3).1
  rw [En.zero_drop hlen _ hown2.1] at hown3
  have hlo := (hown3.lt W.heap.size rfl).2
  have hg4 := HR4.out.2
  have hsz := hg4.size
  have hrd3 := ownsRow_rd hown3
  refine bodyPost_ret (results_cell_row rfl _ W5 (w.heap.size + 1) 55 _ (0, 0) _ rfl h5.out Try.underlying55 rfl (by rw [e_size]; rfl)) rfl ⟨some ⟨W.heap.size, 0, none⟩, bn, rfl, ?_, (fun x e => by cases e; exact HB.out.size), ?_⟩
  · have h0 := HE.out
    refine ⟨h0.ix, h0.tm, h0.st, h0.kd, h0.look, h0.da, ?_, h0.len, h0.oks⟩
    refine (hrd3.stay (w' := W5) fun b o e => ?_).more ?_
    · cases e
      exact (hg5.block _ (Nat.lt_of_lt_of_le hlo hsz) (fun e => hp1 (by simpa using e))).trans (hg4.block _ hlo (fun e => hp0 (by simpa using e)))
    · exact Nat.le_trans hsz hg5.size
  · have hbw : Below w.heap.size w w3 := HB.out.trans (HB3.out.mono HB.out.size)
    exact (hbw.grown hg4 hbw.size (fun k e => by cases e; exact Nat.le_refl _)).grown hg5 (Nat.le_trans hbw.size hsz) (fun k e => by cases e; exact Nat.le_succ _)

theorem noop_any (ix tm st : Nat) (w : World) :
    Calls Try.prog 39 #[.int .u64 (ix : Int), .int .u64 (tm : Int), .int .u64 (st : Int)] w fun r w' => r = .returned (.agg (En.cells ⟨ix, tm, st, 2, 0, 0, 0, 0, [], none, 0, 0, []⟩)) ∧ Below w.heap.size w w' := by
  unfold En.cells
  dsimp only
  go_enter Try.func39, Try.ntmps39
  go_wp2
  refine bodyPost_ret (results_cell_row rfl _ _ w.heap.size 55 _ (0, 0) _ rfl (heap_alloc_new w _) Try.underlying55 rfl (by rw [e_size]; rfl)) rfl ⟨rfl, (Below.refl _ _).alloc (Nat.le_refl _) _⟩
end Go.Proofs.Ytenloljcaolkfaa
