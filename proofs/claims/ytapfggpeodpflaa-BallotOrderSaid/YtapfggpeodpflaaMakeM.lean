/- Best's closure: is an entry better than the best so far? What an entry behind others looks behind at: the program's and the reference's. -/
import Derived.Test.YtapfggpeodpflaaMkitM
import Derived.Test.YtapfggpeodpflaaEntsdM
namespace Go.Proofs.Ytapfggpeodpflaa
open Go.RowKit
set_option maxRecDepth 20000

set_option maxHeartbeats 4000000 in
theorem better_any {w : World} {A : Option Addr} {n c : Nat} {Ls : List Li} (h : Slc Li.lay w A n c Ls) (x : En) (hx : x.Reads w) (ix : Nat) (_ : ix < 18446744073709551616) (o : Option En) (ho : (curE o).Reads w) (p2 p3 p6 p7 : Nat)
    (h2 : w.heap[p2]? = some (.cells #[.int .u64 (ix : Int)] 22 (0, 0))) (h3 : w.heap[p3]? = some (.cells #[.slice A n c] 29 (0, 0))) (h6 : ERow w p6 (curE o)) (h7 : w.heap[p7]? = some (.cells #[.bool o.isSome] 4 (0, 0))) :
    Calls Try.prog 50 #[.agg x.cells, .pointer (some ⟨p2, 0, none⟩), .pointer (some ⟨p7, 0, none⟩), .pointer (some ⟨p6, 0, none⟩), .pointer (some ⟨p3, 0, none⟩)] w fun r w' => r = .returned (.bool (btr (vd (flat Ls)) ix o x)) ∧ Below w.heap.size w w' := by
  obtain ⟨W, hW, hz, r0, hb⟩ := boxes1 w x.cells 55
  have HV := Lib.hid (void_any (h.below hb) x (hx.below hb))
  have HB := Lib.hid hb
  have c2 := cell_of_row W p2 0 _ _ _ (row_below h2 hb)
  have c3 := cell_of_row W p3 0 _ _ _ (row_below h3 hb)
  have c6 := cell_of_row W p6 1 _ _ _ (row_below h6 hb)
  have c7 := cell_of_row W p7 0 _ _ _ (row_below h7 hb)
  have hbt : btr (vd (flat Ls)) ix o x = (decide (x.ix = ix) && ((!o.isSome || decide ((curE o).tm < x.tm)) && !(vd (flat Ls) x))) := by
    unfold btr curE
    cases o <;> simp
  rw [hbt]
  clear hbt h hx h2 h3 h6 h7 hb r0 hz
  have hc : (curE o).cells[1]? = some (.int .u64 ((curE o).tm : Int)) := rfl
  rw [hc] at c6
  clear hc
  generalize vd (flat Ls) x = T at *
  generalize o.isSome = B at *
  generalize (curE o).tm = tb at *
  clear ho
  obtain ⟨ixx, tm, st, kd, cl, rq, fr, ct, da, A1, bn, bc, ls⟩ := x
  unfold En.cells at *
  dsimp only at *
  subst hW
  by_cases hi : ixx = ix
  · subst hi
    cases B
    · go_enter Try.func50, Try.ntmps50
      go_wp2_with (first
        | (go_at_call 51; refine HV.out.mono ?_; rintro e w1 ⟨rfl, hb1⟩)
        | fail)
      go_ret
      exact ⟨ret_bool (by cases T <;> simp), HB.out.trans (hb1.mono HB.out.size)⟩
    · by_cases ht : tb < tm
      · have q : decide (tb < tm) = true := by simpa using ht
        go_enter Try.func50, Try.ntmps50
        go_wp2_with (first
          | (go_at_call 51; refine HV.out.mono ?_; rintro e w1 ⟨rfl, hb1⟩)
          | fail)
        go_ret
        exact ⟨ret_bool (by cases T <;> simp [ht]), HB.out.trans (hb1.mono HB.out.size)⟩
      · have q : decide (tb < tm) = false := by simpa using ht
        go_enter Try.func50, Try.ntmps50
        go_wp2
        go_ret
        exact ⟨ret_bool (by simp [ht]), HB.out⟩
  · have q : ((ixx : Int) == (ix : Int)) = false := by simp; omega
    go_enter Try.func50, Try.ntmps50
    go_wp2
    go_ret
    exact ⟨ret_bool (by simp [hi]), HB.out⟩
end Go.Proofs.Ytapfggpeodpflaa

namespace Go.Proofs.Ytapfggpeodpflaa
open Go.RowKit

/-- The looks of the last k of some entries, the last one first. -/
def mades (es : List En) (k : Nat) : List Lk := (es.reverse.take k).map En.look
theorem mades_len (es : List En) (k : Nat) (h : k ≤ es.length) : (mades es k).length = k := by
  unfold mades
  rw [List.length_map, List.length_take, List.length_reverse]
  omega
theorem mades_snoc (es : List En) (k : Nat) (p : En) (h : k < es.length) (hp : es[es.length - 1 - k]? = some p) : mades es (k + 1) = mades es k ++ [p.look] := by
  unfold mades
  have h1 : k < es.reverse.length := by rw [List.length_reverse]; exact h
  rw [List.take_succ_eq_append_getElem h1, List.map_append]
  have h2 : es.reverse[k] = p := by
    rw [List.getElem_reverse]
    exact Option.some.inj ((List.getElem?_eq_getElem _).symm.trans hp)
  rw [h2]
  rfl
theorem mades_get (es : List En) (k i : Nat) (p : En) (hk : k ≤ es.length) (h : i < k) (hp : es[es.length - 1 - i]? = some p) : (mades es k)[i]? = some p.look := by
  unfold mades
  have h1 : i < es.reverse.length := by rw [List.length_reverse]; omega
  rw [List.getElem?_map, List.getElem?_take, if_pos h, List.getElem?_eq_getElem h1, List.getElem_reverse]
  have h2 := Option.some.inj ((List.getElem?_eq_getElem (l := es) (i := es.length - 1 - i) (by omega)).symm.trans hp)
  rw [h2]
  rfl
theorem lk_one (l : Lk) : ∀ u ∈ l.cells, u.oneCell' = true := by
  intro u hu
  simp [Lk.cells] at hu
  rcases hu with rfl | rfl | rfl | rfl <;> rfl
theorem E_lk : Elem Try.prog 53 78 (.agg #[.int .u64 0, .int .u64 0, .int .u32 0, .int .u32 0]) 4 24 := Elem.mk_ Try.underlying53 (by kernel_rfl) rfl (by decide)
theorem Src.lit' {P : Program} {w : World} {b sz n : Nat} {tx e e' : TypeId} (hb : b = w.heap.size) (hk : P.underlying tx = some (.slice e')) (cs : Array Value) (hn : cs.size = n * sz) (h1 : ∀ u ∈ cs.toList, u.oneCell' = true) :
    Src P sz tx (.slice (some ⟨b, 0, none⟩) n n) n cs.toList (w.alloc (.cells cs e)) := by
  subst hb
  exact Src.lit hk cs hn h1
theorem grow_of {w w' : World} (h : Below w.heap.size w w') : w.grownBy w' none := ⟨h.os, h.tape, h.output, h.size, fun i hi _ => h.block i hi⟩
theorem owns_below {w w' : World} {base sz n : Nat} {e : TypeId} {v : Value} {xs : List Value} (h : w.ownsRow base e sz v n xs) (hb : Below w.heap.size w w') : w'.ownsRow base e sz v n xs :=
  h.kept (grow_of hb) (by cases hv : v.ownBlock <;> simp)
/-- So many are made. -/
def mk (n : Int) (len : Nat) : Nat := (min n (len : Int)).toNat

set_option maxHeartbeats 4000000 in
set_option maxRecDepth 8000 in
theorem make_any {w : World} {A : Option Addr} {n c : Nat} {es : List En} (h : Ents w A n c es) (hn : n ≤ 200) (m : Int) :
    Calls Try.prog 40 #[.slice A n c, .int .i64 m] w fun r w' => ∃ v, r = .returned v ∧ w'.ownsRow w.heap.size 78 4 v (mk m n) (lks (mades es (mk m n))) ∧ Below w.heap.size w w' := by
  obtain ⟨K, hK⟩ : ∃ K, K = mk m n := ⟨_, rfl⟩
  obtain ⟨M, hM⟩ : ∃ M, M = min m (n : Int) := ⟨_, rfl⟩
  have hMx : (if (n : Int) < m then (n : Int) else m) = M := by rw [hM]; split <;> omega
  have hMy : min m (n : Int) = M := hM.symm
  have hKM : K = M.toNat := by rw [hK, hM]; rfl
  rw [← hK]
  have hKn : K ≤ n := by rw [hK]; unfold mk; omega
  have hMn : M ≤ (n : Int) := by omega
  have HK := Lib.hid hKM
  have HH := Lib.hid h
  have hni : (n : Int) ≤ 200 := by omega
  clear hK hM hKM h
  go_enter Try.func40, Try.ntmps40
  go_wp2
  go_loopw [5, 6, 11] (fun ov _ ir wr => ∃ (k : Nat), k ≤ K ∧ ir = .int .i64 (k : Int) ∧ wr.ownsRow w.heap.size 78 4 ov k (lks (mades es k)) ∧ Below w.heap.size w wr) (fun _ _ ir _ => K - (intOf ir).toNat)
  case atStart => exact ⟨0, Nat.zero_le _, rfl, World.ownsRow_nil w _ _ _, Below.refl _ _⟩
  case round =>
    obtain ⟨k, hk, rfl, hown, hb⟩ := hrel
    have HB := Lib.hid hb
    have HO := Lib.hid hown
    clear hb hown
    by_cases hlt : k < K
    · have hkM : (k : Int) < M := by have := HK.out; omega
      have hkn : k < n := by omega
      have hk200 : (k : Int) ≤ 200 := by omega
      obtain ⟨p, hp⟩ : ∃ p : Nat, (n : Int) - 1 - (k : Int) = (p : Int) := ⟨n - 1 - k, by omega⟩
      have hpn : (p : Int) < (n : Int) := by omega
      have hpn' : p < n := by omega
      have hn1 : 1 ≤ (n : Int) := by omega
      have hpk : p = es.length - 1 - k := by have := HH.out.len; omega
      obtain ⟨q, hq⟩ : ∃ q, es[p]? = some q := ⟨_, List.getElem?_eq_getElem (by have := HH.out.len; omega)⟩
      obtain ⟨b, o, rfl, hbb, hcc⟩ := HH.out.rd.2.2.2 (by omega)
      have hc := fun j u (hu : q.cells[j]? = some u) => (HB.out.cell (p := ⟨b, o + (p * 10 + j), none⟩) hbb).trans (hcc _ _ (ens_get es p _ hq j u hu))
      have hsn := mades_snoc es k q (by have := HH.out.len; omega) (by rw [← hpk]; exact hq)
      have hLK := fun W => look_any q W
      have HLK := Lib.hid hLK
      have HSN := Lib.hid hsn
      obtain ⟨ix, tm, st, kd, cl, rq, fr, ct, da, A1, bn, bc, ls⟩ := q
      have k0 := hc 0 _ rfl
      have k1 := hc 1 _ rfl
      have k2 := hc 2 _ rfl
      have k3 := hc 3 _ rfl
      have k4 := hc 4 _ rfl
      have k5 := hc 5 _ rfl
      have k6 := hc 6 _ rfl
      have k7 := hc 7 _ rfl
      have k8 := hc 8 _ rfl
      have k9 := hc 9 _ rfl
      unfold En.cells En.look Lk.val at *
      dsimp only at *
      simp only [← Nat.add_assoc, Nat.add_zero] at k0 k1 k2 k3 k4 k5 k6 k7 k8 k9
      obtain ⟨A0, c0, rfl⟩ := ownsRow_form HO.out
      have HLT := Lib.hid hlt
      clear hc hcc hsn hLK hq hpk hlt
      go_wp2_with (first
        | (go_at_call 52; refine (HLK.out _).mono ?_; rintro e w1 ⟨rfl, hb1⟩
           have hb01 := HB.out.trans (hb1.mono HB.out.size)
           have hown1 := owns_below HO.out hb1
           have HB1 := Lib.hid hb01
           have HO1 := Lib.hid hown1
           clear hb1 hb01 hown1)
        | (at_builtin; refine wpL_app (o := ⟨some 25, _, _, _, _, _⟩) (v := .slice A0 k c0) (y := .slice (some ⟨w1.heap.size, 0, none⟩) 1 1) rfl (.tmp 14) (.tmp 24) _ _ rfl E_lk rfl rfl (HO1.out.alloc _) (Src.lit' rfl (n := 1) (sz := 4) Try.underlying53 #[.int .u64 (cl : Int), .int .u64 (rq : Int), .int .u32 (fr : Int), .int .u32 (ct : Int)] rfl (by simp [Value.oneCell'])) (by unfold maxLen; omega) (by omega) (by have := HB1.out.size; simp; omega) ?_; intro v3 w3 hown3 hg3 hat3)
        | fail)
      go_roundw
      case rel => exact ⟨k + 1, by have := HLT.out; omega, by go_num, by rw [HSN.out, lks_app]; exact hown3, (HB1.out.alloc HB1.out.size _).grown hg3 (by have := HB1.out.size; simp; omega) (fun j e => (HO1.out.lt j e).1)⟩
      case measure => have := HLT.out; simp [intOf]; omega
    · obtain rfl : k = K := by omega
      have hkM : decide ((k : Int) < M) = false := by have := HK.out; simp; omega
      go_wp2
      go_ret
      exact ⟨_, rfl, HO.out, HB.out⟩

set_option maxHeartbeats 4000000 in
set_option maxRecDepth 8000 in
theorem rmake_any {w : World} {A : Option Addr} {n c : Nat} {es : List En} (h : Ents w A n c es) (hn : n ≤ 200) (m : Int) :
    Calls Try.prog 31 #[.slice A n c, .int .i64 m] w fun r w' => ∃ v, r = .returned v ∧ w'.ownsRow w.heap.size 78 4 v (mk m n) (lks (mades es (mk m n))) ∧ Below w.heap.size w w' := by
  obtain ⟨K, hK⟩ : ∃ K, K = mk m n := ⟨_, rfl⟩
  have hKM : K = (min m (n : Int)).toNat := by rw [hK]; rfl
  rw [← hK]
  have hKn : K ≤ n := by omega
  have HK := Lib.hid hKM
  have HH := Lib.hid h
  have hni : (n : Int) ≤ 200 := by omega
  clear hK hKM h
  go_enter Try.func31, Try.ntmps31
  go_wp2
  go_loopw [5, 6] (fun ov ir wr => ∃ (k : Nat) (i : Int), k ≤ K ∧ ir = .int .i64 i ∧ i = (n : Int) - 1 - (k : Int) ∧ wr.ownsRow w.heap.size 78 4 ov k (lks (mades es k)) ∧ Below w.heap.size w wr) (fun _ ir _ => (intOf ir + 1).toNat)
  case atStart => exact ⟨0, (n : Int) - 1, Nat.zero_le _, rfl, by omega, World.ownsRow_nil w _ _ _, Below.refl _ _⟩
  case round =>
    obtain ⟨k, i, hk, rfl, hi, hown, hb⟩ := hrel
    have HB := Lib.hid hb
    have HO := Lib.hid hown
    have HI := Lib.hid hi
    obtain ⟨A0, c0, rfl⟩ := ownsRow_form hown
    clear hb hown
    by_cases hlt : k < K
    · have hkm : (k : Int) < m := by have := HK.out; omega
      have hkn : k < n := by omega
      have hk200 : (k : Int) ≤ 200 := by omega
      obtain ⟨p, rfl⟩ : ∃ p : Nat, i = (p : Int) := ⟨n - 1 - k, by omega⟩
      have hpn : (p : Int) < (n : Int) := by omega
      have hpn' : p < n := by omega
      have hp0 : ¬ (p : Int) < 0 := by omega
      have hp1 : 0 ≤ (p : Int) := by omega
      have hpk : p = es.length - 1 - k := by have := HH.out.len; omega
      obtain ⟨q, hq⟩ : ∃ q, es[p]? = some q := ⟨_, List.getElem?_eq_getElem (by have := HH.out.len; omega)⟩
      obtain ⟨b, o, rfl, hbb, hcc⟩ := HH.out.rd.2.2.2 (by omega)
      have hc := fun j u (hu : q.cells[j]? = some u) => (HB.out.cell (p := ⟨b, o + (p * 10 + j), none⟩) hbb).trans (hcc _ _ (ens_get es p _ hq j u hu))
      have hsn := mades_snoc es k q (by have := HH.out.len; omega) (by rw [← hpk]; exact hq)
      have hLK := fun W => rlook_any q W
      have HLK := Lib.hid hLK
      have HSN := Lib.hid hsn
      obtain ⟨ix, tm, st, kd, cl, rq, fr, ct, da, A1, bn, bc, ls⟩ := q
      have k0 := hc 0 _ rfl
      have k1 := hc 1 _ rfl
      have k2 := hc 2 _ rfl
      have k3 := hc 3 _ rfl
      have k4 := hc 4 _ rfl
      have k5 := hc 5 _ rfl
      have k6 := hc 6 _ rfl
      have k7 := hc 7 _ rfl
      have k8 := hc 8 _ rfl
      have k9 := hc 9 _ rfl
      unfold En.cells En.look Lk.val at *
      dsimp only at *
      simp only [← Nat.add_assoc, Nat.add_zero] at k0 k1 k2 k3 k4 k5 k6 k7 k8 k9
      have HLT := Lib.hid hlt
      clear hc hcc hsn hLK hq hpk hlt hi
      go_wp2_with (first
        | (go_at_call 45; refine (HLK.out _).mono ?_; rintro e w1 ⟨rfl, hb1⟩
           have hb01 := HB.out.trans (hb1.mono HB.out.size)
           have hown1 := owns_below HO.out hb1
           have HB1 := Lib.hid hb01
           have HO1 := Lib.hid hown1
           clear hb1 hb01 hown1)
        | (at_builtin; refine wpL_app (o := ⟨some 27, _, _, _, _, _⟩) (v := .slice A0 k c0) (y := .slice (some ⟨w1.heap.size, 0, none⟩) 1 1) rfl (.tmp 20) (.tmp 26) _ _ rfl E_lk rfl rfl (HO1.out.alloc _) (Src.lit' rfl (n := 1) (sz := 4) Try.underlying53 #[.int .u64 (cl : Int), .int .u64 (rq : Int), .int .u32 (fr : Int), .int .u32 (ct : Int)] rfl (by simp [Value.oneCell'])) (by unfold maxLen; omega) (by omega) (by have := HB1.out.size; simp; omega) ?_; intro v3 w3 hown3 hg3 hat3)
        | fail)
      go_roundw
      case rel => exact ⟨k + 1, (p : Int) - 1, by have := HLT.out; omega, rfl, by have := HI.out; omega, by rw [HSN.out, lks_app]; exact hown3, (HB1.out.alloc HB1.out.size _).grown hg3 (by have := HB1.out.size; simp; omega) (fun j e => (HO1.out.lt j e).1)⟩
      case measure => simp [intOf]
    · obtain rfl : k = K := by omega
      have hk200 : (k : Int) ≤ 200 := by omega
      by_cases h0 : i < 0
      · have q1 : decide (0 ≤ i) = false := by simpa using h0
        have q2 : ¬ 0 ≤ i := by omega
        clear hi hlt h0
        go_wp2
        go_ret
        exact ⟨_, rfl, HO.out, HB.out⟩
      · have q1 : decide (0 ≤ i) = true := by simp; omega
        have q2 : 0 ≤ i := by omega
        have q3 : decide ((k : Int) < m) = false := by have := HK.out; simp; omega
        have q4 : m ≤ (k : Int) := by have := HK.out; omega
        clear hi hlt h0
        go_wp2
        go_ret
        exact ⟨_, rfl, HO.out, HB.out⟩

end Go.Proofs.Ytapfggpeodpflaa
