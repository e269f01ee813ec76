/- What an entry behind others looks behind at: the program's and the reference's. entry.Copy, and entry.Noop. -/
import Derived.Test.YtapfggpeodpflaaBlightM
import Derived.Test.YtapfggpeodpflaaMflatM
namespace Go.Proofs.Ytapfggpeodpflaa
open Go.RowKit

/-- The looks of the last k of some entries, the last one first. -/
def mades (es : List En) (k : Nat) : List Lk := (es.reverse.take k).map En.look
theorem mades_len (es : List En) (k : Nat) (h : k ≤ es.length) : (mades es k).length = k := by
  unfold mades
  rw [List.length_map, List.length_take, List.length_reverse]
  omega
theorem mades_snoc (es : List En) (k : Nat) (p : En) (h : k < es.length) (hp : es[es.length - 1 - k]? = some p) : mades es (k + 1) = mades es k ++ [p.look] := by
  unfold mades
  have h1 : k < es.reverse.length := by rw [List.length_reverse]; exact h
  rw [List.take_succ_eq_append_getElem h1, List.map_append]
  have h2 : es.reverse[k] = p := by
    rw [List.getElem_reverse]
    exact Option.some.inj ((List.getElem?_eq_getElem _).symm.trans hp)
  rw [h2]
  rfl
theorem mades_get (es : List En) (k i : Nat) (p : En) (hk : k ≤ es.length) (h : i < k) (hp : es[es.length - 1 - i]? = some p) : (mades es k)[i]? = some p.look := by
  unfold mades
  have h1 : i < es.reverse.length := by rw [List.length_reverse]; omega
  rw [List.getElem?_map, List.getElem?_take, if_pos h, List.getElem?_eq_getElem h1, List.getElem_reverse]
  have h2 := Option.some.inj ((List.getElem?_eq_getElem (l := es) (i := es.length - 1 - i) (by omega)).symm.trans hp)
  rw [h2]
  rfl
theorem lk_one (l : Lk) : ∀ u ∈ l.cells, u.oneCell' = true := by
  intro u hu
  simp [Lk.cells] at hu
  rcases hu with rfl | rfl | rfl | rfl <;> rfl
theorem E_lk : Elem Try.prog 53 78 (.agg #[.int .u64 0, .int .u64 0, .int .u32 0, .int .u32 0]) 4 24 := Elem.mk_ Try.underlying53 (by kernel_rfl) rfl (by decide)
theorem Src.lit' {P : Program} {w : World} {b sz n : Nat} {tx e e' : TypeId} (hb : b = w.heap.size) (hk : P.underlying tx = some (.slice e')) (cs : Array Value) (hn : cs.size = n * sz) (h1 : ∀ u ∈ cs.toList, u.oneCell' = true) :
    Src P sz tx (.slice (some ⟨b, 0, none⟩) n n) n cs.toList (w.alloc (.cells cs e)) := by
  subst hb
  exact Src.lit hk cs hn h1
theorem grow_of {w w' : World} (h : Below w.heap.size w w') : w.grownBy w' none := ⟨h.os, h.tape, h.output, h.size, fun i hi _ => h.block i hi⟩
theorem owns_below {w w' : World} {base sz n : Nat} {e : TypeId} {v : Value} {xs : List Value} (h : w.ownsRow base e sz v n xs) (hb : Below w.heap.size w w') : w'.ownsRow base e sz v n xs :=
  h.kept (grow_of hb) (by cases hv : v.ownBlock <;> simp)
/-- So many are made. -/
def mk (n : Int) (len : Nat) : Nat := (min n (len : Int)).toNat

set_option maxHeartbeats 4000000 in
set_option maxRecDepth 8000 in
theorem make_any {w : World} {A : Option Addr} {n c : Nat} {es : List En} (h : Ents w A n c es) (hn : n ≤ 200) (m : Int) :
    Calls Try.prog 40 #[.slice A n c, .int .i64 m] w fun r w' => ∃ v, r = .returned v ∧ w'.ownsRow w.heap.size 78 4 v (mk m n) (lks (mades es (mk m n))) ∧ Below w.heap.size w w' := by
  obtain ⟨K, hK⟩ : ∃ K, K = mk m n := ⟨_, rfl⟩
  obtain ⟨M, hM⟩ : ∃ M, M = min m (n : Int) := ⟨_, rfl⟩
  have hMx : (if (n : Int) < m then (n : Int) else m) = M := by rw [hM]; split <;> omega
  have hMy : min m (n : Int) = M := hM.symm
  have hKM : K = M.toNat := by rw [hK, hM]; rfl
  rw [← hK]
  have hKn : K ≤ n := by rw [hK]; unfold mk; omega
  have hMn : M ≤ (n : Int) := by omega
  have HK := Lib.hid hKM
  have HH := Lib.hid h
  have hni : (n : Int) ≤ 200 := by omega
  clear hK hM hKM h
  go_enter Try.func40, Try.ntmps40
  go_wp2
  go_loopw [5, 6, 11] (fun ov _ ir wr => ∃ (k : Nat), k ≤ K ∧ ir = .int .i64 (k : Int) ∧ wr.ownsRow w.heap.size 78 4 ov k (lks (mades es k)) ∧ Below w.heap.size w wr) (fun _ _ ir _ => K - (intOf ir).toNat)
  case atStart => exact ⟨0, Nat.zero_le _, rfl, World.ownsRow_nil w _ _ _, Below.refl _ _⟩
  case round =>
    obtain ⟨k, hk, rfl, hown, hb⟩ := hrel
    have HB := Lib.hid hb
    have HO := Lib.hid hown
    clear hb hown
    by_cases hlt : k < K
    · have hkM : (k : Int) < M := by have := HK.out; omega
      have hkn : k < n := by omega
      have hk200 : (k : Int) ≤ 200 := by omega
      obtain ⟨p, hp⟩ : ∃ p : Nat, (n : Int) - 1 - (k : Int) = (p : Int) := ⟨n - 1 - k, by omega⟩
      have hpn : (p : Int) < (n : Int) := by omega
      have hpn' : p < n := by omega
      have hn1 : 1 ≤ (n : Int) := by omega
      have hpk : p = es.length - 1 - k := by have := HH.out.len; omega
      obtain ⟨q, hq⟩ : ∃ q, es[p]? = some q := ⟨_, List.getElem?_eq_getElem (by have := HH.out.len; omega)⟩
      obtain ⟨b, o, rfl, hbb, hcc⟩ := HH.out.rd.2.2.2 (by omega)
      have hc := fun j u (hu : q.cells[j]? = some u) => (HB.out.cell (p := ⟨b, o + (p * 10 + j), none⟩) hbb).trans (hcc _ _ (ens_get es p _ hq j u hu))
      have hsn := mades_snoc es k q (by have := HH.out.len; omega) (by rw [← hpk]; exact hq)
      have hLK := fun W => look_any q W
      have HLK := Lib.hid hLK
      have HSN := Lib.hid hsn
      obtain ⟨ix, tm, st, kd, cl, rq, fr, ct, da, A1, bn, bc, ls⟩ := q
      have k0 := hc 0 _ rfl
      have k1 := hc 1 _ rfl
      have k2 := hc 2 _ rfl
      have k3 := hc 3 _ rfl
      have k4 := hc 4 _ rfl
      have k5 := hc 5 _ rfl
      have k6 := hc 6 _ rfl
      have k7 := hc 7 _ rfl
      have k8 := hc 8 _ rfl
      have k9 := hc 9 _ rfl
      unfold En.cells En.look Lk.val at *
      dsimp only at *
      simp only [← Nat.add_assoc, Nat.add_zero] at k0 k1 k2 k3 k4 k5 k6 k7 k8 k9
      obtain ⟨A0, c0, rfl⟩ := ownsRow_form HO.out
      have HLT := Lib.hid hlt
      clear hc hcc hsn hLK hq hpk hlt
      go_wp2_with (first
        | (go_at_call 52; refine (HLK.out _).mono ?_; rintro e w1 ⟨rfl, hb1⟩
           have hb01 := HB.out.trans (hb1.mono HB.out.size)
           have hown1 := owns_below HO.out hb1
           have HB1 := Lib.hid hb01
           have HO1 := Lib.hid hown1
           clear hb1 hb01 hown1)
        | (at_builtin; refine wpL_app (o := ⟨some 25, _, _, _, _, _⟩) (v := .slice A0 k c0) (y := .slice (some ⟨w1.heap.size, 0, none⟩) 1 1) rfl (.tmp 14) (.tmp 24) _ _ rfl E_lk rfl rfl (HO1.out.alloc _) (Src.lit' rfl (n := 1) (sz := 4) Try.underlying53 #[.int .u64 (cl : Int), .int .u64 (rq : Int), .int .u32 (fr : Int), .int .u32 (ct : Int)] rfl (by simp [Value.oneCell'])) (by unfold maxLen; omega) (by omega) (by have := HB1.out.size; simp; omega) ?_; intro v3 w3 hown3 hg3 hat3)
        | fail)
      go_roundw
      case rel => exact ⟨k + 1, by have := HLT.out; omega, by go_num, by rw [HSN.out, lks_app]; exact hown3, (HB1.out.alloc HB1.out.size _).grown hg3 (by have := HB1.out.size; simp; omega) (fun j e => (HO1.out.lt j e).1)⟩
      case measure => have := HLT.out; simp [intOf]; omega
    · obtain rfl : k = K := by omega
      have hkM : decide ((k : Int) < M) = false := by have := HK.out; simp; omega
      go_wp2
      go_ret
      exact ⟨_, rfl, HO.out, HB.out⟩

set_option maxHeartbeats 4000000 in
set_option maxRecDepth 8000 in
theorem rmake_any {w : World} {A : Option Addr} {n c : Nat} {es : List En} (h : Ents w A n c es) (hn : n ≤ 200) (m : Int) :
    Calls Try.prog 31 #[.slice A n c, .int .i64 m] w fun r w' => ∃ v, r = .returned v ∧ w'.ownsRow w.heap.size 78 4 v (mk m n) (lks (mades es (mk m n))) ∧ Below w.heap.size w w' := by
  obtain ⟨K, hK⟩ : ∃ K, K = mk m n := ⟨_, rfl⟩
  have hKM : K = (min m (n : Int)).toNat := by rw [hK]; rfl
  rw [← hK]
  have hKn : K ≤ n := by omega
  have HK := Lib.hid hKM
  have HH := Lib.hid h
  have hni : (n : Int) ≤ 200 := by omega
  clear hK hKM h
  go_enter Try.func31, Try.ntmps31
  go_wp2
  go_loopw [5, 6] (fun ov ir wr => ∃ (k : Nat) (i : Int), k ≤ K ∧ ir = .int .i64 i ∧ i = (n : Int) - 1 - (k : Int) ∧ wr.ownsRow w.heap.size 78 4 ov k (lks (mades es k)) ∧ Below w.heap.size w wr) (fun _ ir _ => (intOf ir + 1).toNat)
  case atStart => exact ⟨0, (n : Int) - 1, Nat.zero_le _, rfl, by omega, World.ownsRow_nil w _ _ _, Below.refl _ _⟩
  case round =>
    obtain ⟨k, i, hk, rfl, hi, hown, hb⟩ := hrel
    have HB := Lib.hid hb
    have HO := Lib.hid hown
    have HI := Lib.hid hi
    obtain ⟨A0, c0, rfl⟩ := ownsRow_form hown
    clear hb hown
    by_cases hlt : k < K
    · have hkm : (k : Int) < m := by have := HK.out; omega
      have hkn : k < n := by omega
      have hk200 : (k : Int) ≤ 200 := by omega
      obtain ⟨p, rfl⟩ : ∃ p : Nat, i = (p : Int) := ⟨n - 1 - k, by omega⟩
      have hpn : (p : Int) < (n : Int) := by omega
      have hpn' : p < n := by omega
      have hp0 : ¬ (p : Int) < 0 := by omega
      have hp1 : 0 ≤ (p : Int) := by omega
      have hpk : p = es.length - 1 - k := by have := HH.out.len; omega
      obtain ⟨q, hq⟩ : ∃ q, es[p]? = some q := ⟨_, List.getElem?_eq_getElem (by have := HH.out.len; omega)⟩
      obtain ⟨b, o, rfl, hbb, hcc⟩ := HH.out.rd.2.2.2 (by omega)
      have hc := fun j u (hu : q.cells[j]? = some u) => (HB.out.cell (p := ⟨b, o + (p * 10 + j), none⟩) hbb).trans (hcc _ _ (ens_get es p _ hq j u hu))
      have hsn := mades_snoc es k q (by have := HH.out.len; omega) (by rw [← hpk]; exact hq)
      have hLK := fun W => rlook_any q W
      have HLK := Lib.hid hLK
      have HSN := Lib.hid hsn
      obtain ⟨ix, tm, st, kd, cl, rq, fr, ct, da, A1, bn, bc, ls⟩ := q
      have k0 := hc 0 _ rfl
      have k1 := hc 1 _ rfl
      have k2 := hc 2 _ rfl
      have k3 := hc 3 _ rfl
      have k4 := hc 4 _ rfl
      have k5 := hc 5 _ rfl
      have k6 := hc 6 _ rfl
      have k7 := hc 7 _ rfl
      have k8 := hc 8 _ rfl
      have k9 := hc 9 _ rfl
      unfold En.cells En.look Lk.val at *
      dsimp only at *
      simp only [← Nat.add_assoc, Nat.add_zero] at k0 k1 k2 k3 k4 k5 k6 k7 k8 k9
      have HLT := Lib.hid hlt
      clear hc hcc hsn hLK hq hpk hlt hi
      go_wp2_with (first
        | (go_at_call 45; refine (HLK.out _).mono ?_; rintro e w1 ⟨rfl, hb1⟩
           have hb01 := HB.out.trans (hb1.mono HB.out.size)
           have hown1 := owns_below HO.out hb1
           have HB1 := Lib.hid hb01
           have HO1 := Lib.hid hown1
           clear hb1 hb01 hown1)
        | (at_builtin; refine wpL_app (o := ⟨some 27, _, _, _, _, _⟩) (v := .slice A0 k c0) (y := .slice (some ⟨w1.heap.size, 0, none⟩) 1 1) rfl (.tmp 20) (.tmp 26) _ _ rfl E_lk rfl rfl (HO1.out.alloc _) (Src.lit' rfl (n := 1) (sz := 4) Try.underlying53 #[.int .u64 (cl : Int), .int .u64 (rq : Int), .int .u32 (fr : Int), .int .u32 (ct : Int)] rfl (by simp [Value.oneCell'])) (by unfold maxLen; omega) (by omega) (by have := HB1.out.size; simp; omega) ?_; intro v3 w3 hown3 hg3 hat3)
        | fail)
      go_roundw
      case rel => exact ⟨k + 1, (p : Int) - 1, by have := HLT.out; omega, rfl, by have := HI.out; omega, by rw [HSN.out, lks_app]; exact hown3, (HB1.out.alloc HB1.out.size _).grown hg3 (by have := HB1.out.size; simp; omega) (fun j e => (HO1.out.lt j e).1)⟩
      case measure => simp [intOf]
    · obtain rfl : k = K := by omega
      have hk200 : (k : Int) ≤ 200 := by omega
      by_cases h0 : i < 0
      · have q1 : decide (0 ≤ i) = false := by simpa using h0
        have q2 : ¬ 0 ≤ i := by omega
        clear hi hlt h0
        go_wp2
        go_ret
        exact ⟨_, rfl, HO.out, HB.out⟩
      · have q1 : decide (0 ≤ i) = true := by simp; omega
        have q2 : 0 ≤ i := by omega
        have q3 : decide ((k : Int) < m) = false := by have := HK.out; simp; omega
        have q4 : m ≤ (k : Int) := by have := HK.out; omega
        clear hi hlt h0
        go_wp2
        go_ret
        exact ⟨_, rfl, HO.out, HB.out⟩

end Go.Proofs.Ytapfggpeodpflaa

namespace Go.Proofs.Ytapfggpeodpflaa
open Go.RowKit
set_option maxRecDepth 20000

/-- The same entry, but for where its looks lie. -/
def En.put (e : En) (A : Option Addr) (c : Nat) : En := ⟨e.ix, e.tm, e.st, e.kd, e.cl, e.rq, e.fr, e.ct, e.da, A, e.bn, c, e.ls⟩
theorem lks_one (ls : List Lk) : ∀ u ∈ lks ls, u.oneCell' = true := by
  intro v hv
  unfold lks at hv
  obtain ⟨e, _, h⟩ := List.mem_flatMap.1 hv
  exact lk_one e v h
theorem En.zero_drop {ls : List Lk} {n : Nat} (_ : ls.length = n) (zs : List Value) (hz : zs.length = n * 4) : lks ls ++ zs.drop (n * 4) = lks ls := by
  rw [List.drop_eq_nil_of_le (by omega), List.append_nil]
theorem set_far {w : World} {g j : Nat} {cs : Array Value} {t : TypeId} {u : Value} (h : w.heap[g]? = some (.cells cs t (0, 0))) : (w.setCell ⟨g, j, none⟩ u).heap[g]? = some (.cells (cs.setIfInBounds j u) t (0, 0)) ∧ w.grownBy (w.setCell ⟨g, j, none⟩ u) (some g) := by
  rw [setCell_eq_setRow w g j cs t (0, 0) u h]
  exact ⟨setRow_heap w g _ _ t _ h, ⟨rfl, rfl, rfl, by simp, fun k _ hk => setRow_other w g k _ (fun e => hk (by rw [e]))⟩⟩
theorem own_ne {k g n c : Nat} (h : k < g) : some k ≠ Value.ownBlock (.slice (some ⟨g, 0, none⟩) n c) := fun e => by
  have : k = g := by simpa [Value.ownBlock] using e
  omega
theorem En.Reads.stays {e : En} {w w' : World} (h : e.Reads w) (k : 0 < e.bn → ∀ x, e.A = some x → x.block < w.heap.size → w'.heap[x.block]? = w.heap[x.block]?) (hz : w.heap.size ≤ w'.heap.size) : e.Reads w' :=
  ⟨h.ix, h.tm, h.st, h.kd, h.look, h.da, (h.rd.stayn (fun hn _ _ hA hb => k hn _ hA hb)).more hz, h.len, h.oks⟩
theorem En.Reads.grown {e : En} {w w' : World} {row : Option Nat} (h : e.Reads w) (hg : w.grownBy w' row) (hne : 0 < e.bn → ∀ x, e.A = some x → row ≠ some x.block) : e.Reads w' :=
  h.stays (fun hn x hA hb => hg.block x.block hb (fun e => hne hn x hA e.symm)) hg.size
theorem En.Reads.in_ {e : En} {w : World} (h : e.Reads w) (hn : 0 < e.bn) {x : Addr} (hA : e.A = some x) : x.block < w.heap.size := by
  obtain ⟨b, o, h1, h2, _⟩ := h.rd.2.2.2 hn
  rw [hA] at h1
  cases h1
  exact h2
set_option maxHeartbeats 2000000 in
theorem copy_any (e : En) (w : World) (h : e.Reads w) (hn : e.bn ≤ 200) :
    Calls Try.prog 33 #[.agg e.cells] w fun r w' => ∃ A c, r = .returned (.agg (e.put A c).cells) ∧ (e.put A c).Reads w' ∧ (∀ x, A = some x → w.heap.size ≤ x.block) ∧ Below w.heap.size w w' := by
  obtain ⟨W, hW, hz, r0, r1, hb⟩ := boxes2 w e.cells #[.int .u64 0, .int .u64 0, .int .u64 0, .int .i64 0, .int .u64 0, .int .u64 0, .int .u32 0, .int .u32 0, .string ⟨#[]⟩, .slice none 0 0] 55 55
  have HH := Lib.hid (h.below hb)
  have HE := Lib.hid h
  have HB := Lib.hid hb
  have hlen := h.len
  have hrd := (h.below hb).rd
  have HRD := Lib.hid hrd
  have R1 := Lib.hid r1
  have R0 := Lib.hid r0
  have HZ := Lib.hid hz
  obtain ⟨ix, tm, st, kd, cl, rq, fr, ct, da, A, bn, bc, ls⟩ := e
  unfold En.put
  dsimp only at *
  have hbi : (bn : Int) ≤ 200 := by omega
  clear h hb hz r0 r1 hrd
  unfold En.cells at *
  dsimp only at *
  go_enter Try.func33, Try.ntmps33
  have hz2 : w.heap.size < W.heap.size := by have := HZ.out; omega
  have hz3 : w.heap.size + 1 < W.heap.size := by have := HZ.out; omega
  have Z2 := Lib.hid hz2
  have Z3 := Lib.hid hz3
  clear hz2 hz3
  go_wp2_with (first
    | (at_make; rw [← hW]; refine wpL_make rfl _ _ _ rfl (base := W.heap.size) E_lk bn rfl rfl rfl rfl (by omega) (by unfold maxLen; omega) (Nat.le_refl _) ?_; intro w2 hown2 hg2
       have r2 := (hg2.block _ Z2.out (fun e => by cases e)).trans R0.out
       have s2 := (hg2.block _ Z3.out (fun e => by cases e)).trans R1.out
       have HB2 := Lib.hid ((Below.refl W.heap.size W).grown hg2 (Nat.le_refl _) (fun k e => by cases e))
       have k9 := cell_of_row w2 w.heap.size 9 _ _ _ r2
       clear hW)
    | (refine wpL_cp (o := ⟨some 11, _, _, _, _, _⟩) (y := .slice A bn bc) (m := bn) rfl (.tmp 8) (.tmp 10) _ _ rfl E_lk rfl rfl hown2 ((HRD.out.below HB2.out).src Try.underlying53 (lks_one _)) (Nat.le_refl _) ?_; intro w3 hown3 hg3
       have r3 := (hg3.block w.heap.size (Nat.lt_of_lt_of_le Z2.out HB2.out.size) (own_ne Z2.out)).trans r2
       have s3 := (hg3.block (w.heap.size + 1) (Nat.lt_of_lt_of_le Z3.out HB2.out.size) (own_ne Z3.out)).trans s2
       have HB3 := Lib.hid (HB2.out.grown hg3 HB2.out.size (fun k e => (hown3.lt k e).1))
       clear k9 r2 s2
       have j9 := cell_of_row w3 w.heap.size 9 _ _ _ r3
       have f9 := frozen_of_row w3 w.heap.size 9 _ _ r3
       have HR4 := Lib.hid (set_far (u := .slice (some ⟨W.heap.size, 0, none⟩) bn bn) (j := 9) r3)
       have HS4 := Lib.hid (HR4.out.2.block (w.heap.size + 1) (Array.getElem?_eq_some_iff.1 s3).1 (fun e => by simp at e) |>.trans s3))
    | (refine wpL_midk rfl _ (.tmp 1) rfl _ rfl (.agg (En.cells ⟨ix, tm, st, kd, cl, rq, fr, ct, da, some ⟨W.heap.size, 0, none⟩, bn, bn, ls⟩)) (e_loads HR4.out.1) ?_
       intro K hK
       refine hK _ _ ?_
       clear hK K
       refine wpL_estore rfl (.tmp 2) (.tmp 14) rfl (e := ⟨ix, tm, st, kd, cl, rq, fr, ct, da, some ⟨W.heap.size, 0, none⟩, bn, bn, ls⟩) (d := Ez) rfl rfl HS4.out ?_
       intro W5 h5 hg5 hz5)
    | fail)
  have hp0 : W.heap.size ≠ w.heap.size := by have := HZ.out; omega
  have hp1 : W.heap.size ≠ w.heap.size + 1 := by have := HZ.out; omega
  have hlt3 := (Array.getElem?_eq_some_iff.1 s3).1
  rw [En.zero_drop hlen _ hown2.1] at hown3
  have hlo := (hown3.lt W.heap.size rfl).2
  have hg4 := HR4.out.2
  have hsz := hg4.size
  have hrd3 := ownsRow_rd hown3
  refine bodyPost_ret (results_cell_row rfl _ W5 (w.heap.size + 1) 55 _ (0, 0) _ rfl h5.out Try.underlying55 rfl (by rw [e_size]; rfl)) rfl ⟨some ⟨W.heap.size, 0, none⟩, bn, rfl, ?_, (fun x e => by cases e; exact HB.out.size), ?_⟩
  · have h0 := HE.out
    refine ⟨h0.ix, h0.tm, h0.st, h0.kd, h0.look, h0.da, ?_, h0.len, h0.oks⟩
    refine (hrd3.stay (w' := W5) fun b o e => ?_).more ?_
    · cases e
      exact (hg5.block _ (Nat.lt_of_lt_of_le hlo hsz) (fun e => hp1 (by simpa using e))).trans (hg4.block _ hlo (fun e => hp0 (by simpa using e)))
    · exact Nat.le_trans hsz hg5.size
  · have hbw : Below w.heap.size w w3 := HB.out.trans (HB3.out.mono HB.out.size)
    exact (hbw.grown hg4 hbw.size (fun k e => by cases e; exact Nat.le_refl _)).grown hg5 (Nat.le_trans hbw.size hsz) (fun k e => by cases e; exact Nat.le_succ _)

theorem noop_any (ix tm st : Nat) (w : World) :
    Calls Try.prog 39 #[.int .u64 (ix : Int), .int .u64 (tm : Int), .int .u64 (st : Int)] w fun r w' => r = .returned (.agg (En.cells ⟨ix, tm, st, 2, 0, 0, 0, 0, [], none, 0, 0, []⟩)) ∧ Below w.heap.size w w' := by
  unfold En.cells
  dsimp only
  go_enter Try.func39, Try.ntmps39
  go_wp2
  refine bodyPost_ret (results_cell_row rfl _ _ w.heap.size 55 _ (0, 0) _ rfl (heap_alloc_new w _) Try.underlying55 rfl (by rw [e_size]; rfl)) rfl ⟨rfl, (Below.refl _ _).alloc (Nat.le_refl _) _⟩
end Go.Proofs.Ytapfggpeodpflaa
