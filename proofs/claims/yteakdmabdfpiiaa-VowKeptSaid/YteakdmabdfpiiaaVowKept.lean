/- VowKept: whatever is asked, and wherever the power goes, terms never fall, in one term there is a vote for one node at most, and what was answered without an error is kept: the law answers true for every list of calls. -/
import Derived.Test.YteakdmabdfpiiaaVowk
import Derived.Test.YteakdmabdfpiiaaVopd
import Derived.Test.YteakdmabdfpiiaaSegsZ
import Derived.LoopN
import Derived.Deep.DeepCutAuto
import Derived.Deep.CutBlock
namespace Go.Proofs.Yteakdmabdfpiiaa
set_option maxRecDepth 20000
open Go.RowKit

def Vv.lay : Lay Vv 2 := ⟨Vv.cells, fun _ => rfl, fun _ _ => True, fun _ _ _ _ _ => trivial, ⟨0, 0⟩, fun _ => trivial⟩
theorem E_prom : Elem Try.prog 83 74 (.agg #[.int .u64 0, .int .i64 0]) 2 16 := Elem.mk_ Try.underlying83 (by kernel_rfl) rfl (by decide)
/-- What was told, one after the other. -/
def Story (l : List Vv) (p : Vv) : Prop := (∀ a ∈ l, Le a p) ∧ ∀ (i j : Nat) (a b : Vv), j < i → l[i]? = some a → l[j]? = some b → Le b a
theorem Story.snoc {l : List Vv} {p q : Vv} (h : Story l p) (k : Le p q) : Story (l ++ [q]) q := by
  refine ⟨fun a ha => ?_, fun i j a b hij ha hb => ?_⟩
  · rcases List.mem_append.1 ha with h1 | h1
    · exact (h.1 a h1).trans k
    · rw [List.mem_singleton.1 h1]; exact Le.refl _
  · have hj : j < l.length := by
      have := (List.getElem?_eq_some_iff.1 ha).1
      rw [List.length_append, List.length_singleton] at this
      omega
    rw [List.getElem?_append_left hj] at hb
    rcases Nat.lt_or_ge i l.length with h1 | h1
    · rw [List.getElem?_append_left h1] at ha
      exact h.2 i j a b hij ha hb
    · have hi : i = l.length := by
        have := (List.getElem?_eq_some_iff.1 ha).1
        rw [List.length_append, List.length_singleton] at this
        omega
      subst hi
      simp at ha
      subst ha
      exact (h.1 b (List.mem_of_getElem? hb)).trans k
section
variable {X X' : Nat → Prop} {w W W' : World} {B g T V M : Nat} {d : Dv} {t : Tv} {p : Vv}
theorem Tlx.grow (h : Tlx X w W B g T M d t) (k : Keeps (fun i => X i ∧ w.heap.size ≤ i) W W') (hX : ∀ i, X' i → (X i ∨ W.heap.size ≤ i) ∧ i < W'.heap.size) : Tlx X' w W' B g T M d t := by
  obtain ⟨N, h1, h2, h3, h4, h5, h6, h7⟩ := h
  refine ⟨fun i => N i ∧ i < W.heap.size, (h1.mono (Nat.le_refl _) (fun i hi hn => ⟨hn, hi⟩)).keeps k (fun i hi _ hn => (h4 i hn.1).2 hi.1), k.row h2 (fun hi => h5.2 hi.1), fun h => h3 h.1, fun i hi => ⟨(h4 i hi.1).1, fun hx => ?_⟩, ⟨h5.1, fun hx => ?_⟩, fun i hi => (hX i hi).2, h7.trans (k.below h7.size (fun i hi => hi.2))⟩
  · rcases (hX i hx).1 with hh | hh
    · exact (h4 i hi.1).2 hh
    · have := hi.2
      omega
  · rcases (hX T hx).1 with hh | hh
    · exact h5.2 hh
    · have := h2.lt
      omega
theorem Vlx.grow (h : Vlx X w W B g T V M d t p) (k : Keeps (fun i => X i ∧ w.heap.size ≤ i) W W') (hX : ∀ i, X' i → (X i ∨ W.heap.size ≤ i) ∧ i < W'.heap.size) : Vlx X' w W' B g T V M d t p := by
  have hlt := h.2.1.lt
  refine ⟨h.1.grow (k.wide (fun _ hi => ⟨.inl hi.1, hi.2⟩)) (fun i hi => ?_), k.row h.2.1 (fun hi => h.2.2.2 hi.1), h.2.2.1, fun hx => ?_⟩
  · rcases hi with hi | rfl
    · exact ⟨(hX i hi).1.imp .inl id, (hX i hi).2⟩
    · exact ⟨.inl (.inr rfl), Nat.lt_of_lt_of_le hlt k.size⟩
  · rcases (hX V hx).1 with h1 | h1
    · exact h.2.2.2 h1
    · omega
theorem vlx_fuse (h : Vlx X w W B g T V M d t p) (n : Int) (hn : Key n) :
    Calls Try.prog 23 #[.pointer (some ⟨g, 0, none⟩), .int .i64 n] W fun e w' => e = .returned (.tuple #[]) ∧ Vlx X w w' B g T V M (d.fused n) t p ∧ Keeps (Off X w) W w' := by
  refine (tlx_fuse h.1 n hn).mono ?_
  rintro e w' ⟨rfl, hT, hk⟩
  exact ⟨rfl, ⟨hT, hk.row h.2.1 (fun ho => ho.2 (.inr rfl)), h.2.2⟩, hk.wide (fun i hi => ⟨hi.1, fun hx => hi.2 (.inl hx)⟩)⟩
theorem owns_off {n : Nat} {v : Value} {xs : List Value} {e : TypeId} {base sz : Nat} (h : W.ownsRow base e sz v n xs) (k : Keeps (Off X w) W W') (hX : ∀ i, v.ownBlock = some i → X i) : W'.ownsRow base e sz v n xs := ownsRow_kp h k (fun i hi ho => ho.2 (hX i hi))
end
theorem owns_below {w W : World} {n : Nat} {v : Value} {xs : List Value} {e : TypeId} {base sz : Nat} (h : w.ownsRow base e sz v n xs) (hb : Below w.heap.size w W) : W.ownsRow base e sz v n xs := ownsRow_kp (F := fun _ => False) h (Keeps.of_below hb) (fun _ _ h => h)
/-- Between two rounds. -/
structure KJ (w : World) (g : Nat) (i V : Nat) (tv : Value) (W : World) : Prop where
  at_ : ∃ T d t p l, Vlx (fun j => tv.ownBlock = some j) w W w.heap.size g T V (200 * i) d t p ∧ Good 1 d t p ∧ d.n = 4 ∧ t.next ≤ 2 * i + 1 ∧ W.ownsRow w.heap.size 74 2 tv i (Vv.lay.flat l) ∧ l.length = i ∧ Story l p
set_option maxHeartbeats 16000000 in
theorem vowKept_at {A : Option Addr} {n c : Nat} {os : List Vop} {w : World} (h : Slc Vop.lay w A n c os) :
    Calls Try.prog 7 #[.slice A n c] w fun e w' => e = .returned (.bool true) ∧ Below w.heap.size w w' := by
  have hdn := dlx_new 4 w (by decide) (by decide)
  have hnm := h.rd.2.1
  have hnc := h.rd.1
  obtain ⟨g0, g0x⟩ := good_new 4 (by decide) 1
  obtain ⟨t0, ht0⟩ : ∃ t, t = openTv 1 1 ((Dv.new 4).bytes 1 (2 * 1)) := ⟨_, rfl⟩
  rw [← ht0] at g0 g0x
  have HS := Lib.hid h
  have HD := Lib.hid hdn
  have HG0 := Lib.hid (And.intro g0 g0x)
  have HT0 := Lib.hid ht0
  clear hdn h g0 g0x ht0
  go_enter Try.func7, Try.ntmps7
  go_wp2_with (first
    | (go_at_call 27; refine (lives12 _).mono ?_; rintro e w9 ⟨rfl, hb9⟩)
    | (go_at_call 10; refine HD.out.mono ?_; rintro e w1 ⟨g, rfl, hD0⟩)
    | (go_at_call 28; refine (vopn_any hD0 rfl 1 (by decide) (by decide) t0 HT0.out ⟨0, 0⟩ HG0.out.1.told).mono ?_; rintro e w2 ⟨T, V, rfl, hV0, hb2⟩)
    | fail)
  · go_ret
    exact ⟨rfl, hb9⟩
  have hn60 : n ≤ 60 := by
    have : (n : Int) ≤ 60 := by assumption
    omega
  have HJ0 : Hid (KJ w g 0 V (.slice none 0 0) w2) := Lib.hid ⟨T, Dv.new 4, t0, ⟨0, 0⟩, [], hV0.more (Below.refl _ _) (fun j hj => by cases hj), HG0.out.1, rfl, HG0.out.2, ⟨rfl, .inl ⟨rfl, rfl⟩⟩, rfl, (fun a ha => by cases ha), (fun i j a b _ ha => by simp at ha)⟩
  clear hV0 hD0 hb2 HG0 HT0 HD
  go_loopw [4, 6, 34] (fun vr tr ir wr => ∃ i V : Nat, i ≤ n ∧ ir = .int .i64 (i : Int) ∧ vr = .pointer (some ⟨V, 0, none⟩) ∧ KJ w g i V tr wr) (fun _ _ ir _ => n - (intOf ir).toNat)
  case atStart => exact ⟨0, V, Nat.zero_le _, rfl, rfl, HJ0.out⟩
  case round =>
    obtain ⟨i, V, hi, rfl, rfl, ⟨T, d, t, p, l, hV, hG, hdn, hnx, htl, hll, hst⟩⟩ := hrel
    clear HJ0
    by_cases hlt : i < n
    · obtain ⟨x, hx⟩ : ∃ x, os[i]? = some x := ⟨_, List.getElem?_eq_getElem (by have := HS.out.len; omega)⟩
      have hrd := HS.out.reads x (List.mem_of_getElem? hx)
      obtain ⟨b, o, rfl, hbb, hcc⟩ := HS.out.at_ (by omega)
      have hc := fun j u hu => (hV.bel.cell (p := ⟨b, o + (i * 5 + j), none⟩) hbb).trans (hcc i x hx j u hu)
      obtain ⟨kd, tmz, nd, fu, kA, kn, kc, ks⟩ := x
      have k0 : wr.cell? ⟨b, o + i * 5, none⟩ = some (.int .i64 kd) := hc 0 _ rfl
      have k1 : wr.cell? ⟨b, o + i * 5 + 1, none⟩ = some (.int .u64 tmz) := hc 1 _ rfl
      have k2 : wr.cell? ⟨b, o + i * 5 + 2, none⟩ = some (.int .i64 nd) := hc 2 _ rfl
      have k3 : wr.cell? ⟨b, o + i * 5 + 3, none⟩ = some (.int .i64 fu) := hc 3 _ rfl
      have k4 : wr.cell? ⟨b, o + i * 5 + 4, none⟩ = some (.slice kA kn kc) := hc 4 _ rfl
      obtain ⟨_, hwt, hwn, hwf, hkr, _⟩ := hrd
      obtain ⟨x, rfl⟩ : ∃ x : Nat, tmz = (x : Int) := ⟨tmz.toNat, by simp [Lit.wf, IntKind.min, IntKind.max, IntKind.signed, IntKind.bits] at hwt; omega⟩
      have hkf : Key fu := by simp [Lit.wf, IntKind.min, IntKind.max, IntKind.signed, IntKind.bits] at hwf; exact hwf
      have hlti : (i : Int) < (n : Int) := by omega
      have hii : (i : Int) ≤ 60 := by omega
      clear hc hcc hx hwt hwf
      have HV := Lib.hid hV
      have HG := Lib.hid hG
      have HF := Lib.hid (And.intro hdn hnx)
      have HTL := Lib.hid htl
      have HLL := Lib.hid (And.intro hll hst)
      have HKR := Lib.hid hkr
      have HKF := Lib.hid hkf
      clear hV hG hdn hnx htl hll hst hkr hkf
      by_cases hk : 50 < kn
      · have hk2 : (50 : Int) < (kn : Int) := by omega
        go_wp2_with (first
          | (go_at_call 27; refine (lives12 _).mono ?_; rintro e w9 ⟨rfl, hb9⟩)
          | fail)
        go_ret
        exact ⟨rfl, (HV.out.bel.alloc HV.out.bel.size _).trans (hb9.mono (Nat.le_trans HV.out.bel.size (by simp)))⟩
      have hk2 : (kn : Int) ≤ 50 := by omega
      obtain ⟨W0, hW0⟩ : ∃ W0, W0 = wr.alloc (.cells #[.int .i64 kd, .int .u64 (x : Int), .int .i64 nd, .int .i64 fu, .slice kA kn kc] 76) := ⟨_, rfl⟩
      obtain ⟨q, hq⟩ : ∃ q, q = wr.heap.size := ⟨_, rfl⟩
      have hb0 : Below wr.heap.size wr W0 := by rw [hW0]; exact (Below.refl _ _).alloc (Nat.le_refl _) _
      have hz0 : W0.heap.size = q + 1 := by rw [hW0, hq]; simp
      have r0 : W0.heap[q]? = some (.cells #[.int .i64 kd, .int .u64 (x : Int), .int .i64 nd, .int .i64 fu, .slice kA kn kc] 76 (0, 0)) := by rw [hW0, hq]; exact row_here _ _ rfl
      have htb : ∀ j, u6.ownBlock = some j → w.heap.size ≤ j ∧ j < wr.heap.size := fun j hj => HTL.out.lt j hj
      obtain ⟨X0, hX0⟩ : ∃ X0 : Nat → Prop, X0 = fun j => u6.ownBlock = some j ∨ j = q := ⟨_, rfl⟩
      have hV0 : Vlx X0 w W0 w.heap.size g T V (200 * i) d t p := HV.out.more hb0 (fun j hj => by
        rw [hX0] at hj
        rcases hj with hj | rfl
        · exact ⟨.inl hj, by have := htb j hj; omega⟩
        · exact ⟨.inr (by omega), by omega⟩)
      have o0 := cell_of_row W0 _ 0 _ _ _ r0
      have o1 := cell_of_row W0 _ 1 _ _ _ r0
      have o2 := cell_of_row W0 _ 2 _ _ _ r0
      have o3 := cell_of_row W0 _ 3 _ _ _ r0
      have o4 := cell_of_row W0 _ 4 _ _ _ r0
      simp at o0 o1 o2 o3 o4
      have HX0q := Lib.hid (show X0 q by rw [hX0]; exact .inr rfl)
      have HX0t := Lib.hid (show ∀ j, u6.ownBlock = some j → X0 j from fun j hj => by rw [hX0]; exact .inl hj)
      have HTL0 := Lib.hid (owns_below HTL.out hb0)
      have HW0 := Lib.hid hW0
      have HV0 := Lib.hid hV0
      have HX0 := Lib.hid hX0
      have HQ := Lib.hid (And.intro hq hz0)
      have HTB := Lib.hid htb
      clear hW0 hq hb0 hz0 r0 hX0 hV0 hk htb
      go_upto_region 11 with (fail)
      rw [← HW0.out, ← HQ.out.1]
      go_upto_region 14 with (first
        | (go_at_call 23; refine (vlx_fuse HV0.out fu HKF.out).mono ?_; rintro e w1 ⟨rfl, hV1, hk1⟩
           have o0 := off_cell hk1 (.inl HX0q.out) o0
           have o1 := off_cell hk1 (.inl HX0q.out) o1
           have o2 := off_cell hk1 (.inl HX0q.out) o2
           have o3 := off_cell hk1 (.inl HX0q.out) o3
           have o4 := off_cell hk1 (.inl HX0q.out) o4)
        | fail)
      have HV1 := Lib.hid hV1
      have HTL1 := Lib.hid (owns_off HTL0.out hk1 HX0t.out)
      have HZ1 := Lib.hid (show q < w1.heap.size by have := HQ.out.2; have := hk1.size; omega)
      clear hV1 hk1
      have hha := has_any HV1.out.vw (by have := HG.out.vote; omega)
      unfold Vv.cells at hha
      have HHA := Lib.hid hha
      clear hha
      go_upto_region 15 with (first
        | (go_at_call 32; refine HHA.out.mono ?_; rintro e w2 ⟨rfl, hb2⟩)
        | fail)
      obtain ⟨W2, hW2⟩ : ∃ W2, W2 = w2.alloc (.cells #[.int .u64 (p.term : Int), .int .i64 p.node] 74) := ⟨_, rfl⟩
      rw [← hW2]
      obtain ⟨wb, hwb⟩ : ∃ wb, wb = w2.heap.size := ⟨_, rfl⟩
      rw [← hwb]
      have hb2W : Below w2.heap.size w2 W2 := by rw [hW2]; exact (Below.refl _ _).alloc (Nat.le_refl _) _
      have hz2 : W2.heap.size = wb + 1 := by rw [hW2, hwb]; simp
      have rw2 : W2.heap[wb]? = some (.cells #[.int .u64 (p.term : Int), .int .i64 p.node] 74 (0, 0)) := by rw [hW2, hwb]; exact row_here _ _ rfl
      have hb12 : Below w1.heap.size w1 W2 := hb2.trans (hb2W.mono hb2.size)
      have hsz1 := hb2.size
      obtain ⟨X1, hX1⟩ : ∃ X1 : Nat → Prop, X1 = fun j => X0 j ∨ j = wb := ⟨_, rfl⟩
      have hX0lt : ∀ j, X0 j → j < w1.heap.size := by obtain ⟨N, _, _, h6, _⟩ := HV1.out.dlx; exact h6
      have hV2 : Vlx X1 w W2 w.heap.size g T V (200 * i) (d.fused fu) t p := HV1.out.more hb12 (fun j hj => by
        rw [hX1] at hj
        rcases hj with hj | rfl
        · exact ⟨.inl hj, by have := hX0lt j hj; omega⟩
        · exact ⟨.inr (by omega), by omega⟩)
      have o0 := kept hb12 o0 HZ1.out
      have o1 := kept hb12 o1 HZ1.out
      have o2 := kept hb12 o2 HZ1.out
      have o3 := kept hb12 o3 HZ1.out
      have o4 := kept hb12 o4 HZ1.out
      have HV2 := Lib.hid hV2
      have HTL2 := Lib.hid (owns_below HTL1.out hb12)
      have HRW2 := Lib.hid rw2
      have HXq := Lib.hid (show X1 q by rw [hX1]; exact .inl HX0q.out)
      have HXw := Lib.hid (show X1 wb by rw [hX1]; exact .inr rfl)
      have HXt := Lib.hid (show ∀ j, u6.ownBlock = some j → X1 j from fun j hj => by rw [hX1]; exact .inl (HX0t.out j hj))
      clear hb2 hW2 hwb hb2W hz2 rw2 hb12 hsz1 hX1 hX0lt hV2 HHA
      have hGF : Good 1 (d.fused fu) t p := ⟨stands_fused HG.out.st fu HKF.out, HG.out.up, HG.out.told, HG.out.vote, HG.out.tm⟩
      have hfz : fu < 0 → (d.fused fu).fuse = 0 := fun h => by unfold Dv.fused; dsimp only; rw [if_pos h]
      have hnF : (d.fused fu).n = 4 := HF.out.1
      generalize d.fused fu = dF at *
      have hnx := HF.out.2
      have o1s := step_out hGF (by omega) (p.raised x) (raised_small p x)
      have hro := round_out hGF (by omega) x kd nd
      have hra := vraise_any HV2.out (hGF.fit (by omega) (by omega)) (by omega) x
      unfold vround at hro
      generalize hr1 : vstep dF t p (p.raised x) = r1 at hra o1s hro
      obtain ⟨d1, t1, v1, f1⟩ := r1
      dsimp only at hro
      have HRA := Lib.hid hra
      have HFZ := Lib.hid hfz
      have HNF := Lib.hid hnF
      have HO1 := Lib.hid o1s
      clear hra hfz hnF o1s hr1 hGF
      by_cases hkd : kd = 1
      · subst hkd
        by_cases hfu : fu < 0
        · skip
          rw [if_pos rfl] at hro
          generalize hr2 : vstep d1 t1 v1 (v1.casted x nd) = r2 at hro
          obtain ⟨d2, t2, v2, f2⟩ := r2
          dsimp only at hro
          have hca2 : ∀ {W : World} {T V M : Nat}, Vlx X1 w W w.heap.size g T V M d1 t1 v1 → M ≤ 90000 → Calls Try.prog 31 #[.pointer (some ⟨V, 0, none⟩), .int .u64 (x : Int), .int .i64 nd] W (Vpost X1 w W w.heap.size g T V M (d2, t2, v2, f2)) := fun {W T V M} h hM => by
            have h1 := HO1.out
            rw [← hr2]
            exact vcast_any h ⟨h1.place.1, h1.place.2, h1.tb, h1.ts, h1.x0, by have h2 : t1.next ≤ t.next + 1 := h1.next; have := HF.out.2; omega, by have h2 : d1.n = dF.n := h1.n; have := HNF.out; omega⟩ hM x nd hwn h1.vote
          have HCA := fun {W : World} {T V M : Nat} => Lib.hid (@hca2 W T V M)
          clear hca2 hr2
          obtain ⟨g3, x3, n3, rel⟩ := hro.1 (HFZ.out hfu)
          have HG3 := Lib.hid g3
          have HX3 := Lib.hid (And.intro x3 (n3.trans HNF.out))
          have HREL := Lib.hid rel
          clear hro g3 x3 n3 rel
          go_upto_region 23 with (first
                    | (go_at_call 30; refine HRA.out.mono ?_; rintro e w4 ⟨rfl, hV4, hk4⟩
                       have o0 := off_cell hk4 (.inl HXq.out) o0
                       have o1 := off_cell hk4 (.inl HXq.out) o1
                       have o2 := off_cell hk4 (.inl HXq.out) o2
                       have o3 := off_cell hk4 (.inl HXq.out) o3
                       have o4 := off_cell hk4 (.inl HXq.out) o4)
                    | (go_at_call 31; refine (HCA.out hV4 (by omega)).mono ?_; rintro e w5 ⟨rfl, hV5, hk5⟩
                       have o0 := off_cell hk5 (.inl HXq.out) o0
                       have o1 := off_cell hk5 (.inl HXq.out) o1
                       have o2 := off_cell hk5 (.inl HXq.out) o2
                       have o3 := off_cell hk5 (.inl HXq.out) o3
                       have o4 := off_cell hk5 (.inl HXq.out) o4)
                    | fail)
          have hkz : Keeps (Off X1 w) W2 w5 := (hk4.trans hk5 (fun i h => .inl h))
          have HVz := Lib.hid hV5
          have HTLz := Lib.hid (owns_off HTL2.out hkz HXt.out)
          have HRWz := Lib.hid (hkz.row HRW2.out (fun ho => ho.2 HXw.out))
          clear hkz hV5 hk4 hk5 hV4
          have hha := has_any HVz.out.vw (by have := HG3.out.vote; omega)
          unfold Vv.cells at hha
          have HHA := Lib.hid hha
          clear hha
          go_upto_region 24 with (first
            | (go_at_call 32; refine HHA.out.mono ?_; rintro e w8 ⟨rfl, hb8⟩)
            | fail)
          obtain ⟨W8, hW8⟩ : ∃ W8, W8 = w8.alloc (.cells #[.int .u64 (v2.term : Int), .int .i64 v2.node] 74) := ⟨_, rfl⟩
          rw [← hW8]
          obtain ⟨nb, hnb⟩ : ∃ nb, nb = w8.heap.size := ⟨_, rfl⟩
          rw [← hnb]
          have hb8W : Below w8.heap.size w8 W8 := by rw [hW8]; exact (Below.refl _ _).alloc (Nat.le_refl _) _
          have rn8 : W8.heap[nb]? = some (.cells #[.int .u64 (v2.term : Int), .int .i64 v2.node] 74 (0, 0)) := by rw [hW8, hnb]; exact row_here _ _ rfl
          have hbz8 := hb8.trans (hb8W.mono hb8.size)
          have hk8 : Keeps (Off X1 w) w5 W8 := Keeps.of_below hbz8
          have o0 := off_cell hk8 (.inl HXq.out) o0
          have o1 := off_cell hk8 (.inl HXq.out) o1
          have o2 := off_cell hk8 (.inl HXq.out) o2
          have rwb := hk8.row HRWz.out (fun ho => ho.2 HXw.out)
          have e0 := cell_of_row W8 _ 0 _ _ _ rwb
          have e1 := cell_of_row W8 _ 1 _ _ _ rwb
          have n0 := cell_of_row W8 _ 0 _ _ _ rn8
          have n1 := cell_of_row W8 _ 1 _ _ _ rn8
          simp at e0 e1 n0 n1
          have HV8 := Lib.hid (HVz.out.below hbz8)
          have HTL8 := Lib.hid (owns_below HTLz.out hbz8)
          have HW8s := Lib.hid hbz8.size
          clear hb8 hW8 hnb hb8W rn8 hbz8 hk8 rwb o3 o4 HHA
          have hle := HREL.out.1
          have hzz := HREL.out.2
          go_cut [128] (fun u wx => u = .bool false ∧ wx = W8)
          case first =>
            have hbo : ∀ a : Vv, 0 ≤ a.node ↔ a.vote ≠ 0 := fun a => by unfold Vv.node; split <;> omega
            have hnd : p.term = v2.term → 0 ≤ p.node → v2.node = p.node := fun e hv => by
              have h1 := hle.2 e ((hbo p).1 hv)
              unfold Vv.node
              rw [h1]
            have hlt2 : p.term ≤ v2.term := hle.1
            generalize hpn : p.node = pn at *
            generalize hpt : p.term = pt at *
            generalize hzn : v2.node = zn at *
            generalize hzt : v2.term = zt at *
            clear hle hbo
            have y1 : ¬ zt < pt := by omega
            have y2 : decide (zt < pt) = false := by simpa using y1
            have y3 : (pt : Int) ≤ (zt : Int) := by omega
            by_cases hf0 : f2 = 0
            · obtain ⟨ha, hb⟩ := hzz hf0
              subst hf0
              subst ha
              have hb := hb rfl
              subst hb
              by_cases ht : zt = pt
              · subst ht
                by_cases hv : 0 ≤ pn
                · have he := hnd rfl hv
                  subst he
                  go_wp2_with (fail)
                  go_meet
                  case rel => exact ⟨rfl, rfl⟩
                · have hv2 : pn < 0 := by omega
                  go_wp2_with (fail)
                  go_meet
                  case rel => exact ⟨rfl, rfl⟩
              · have ht2 : (zt == pt) = false := by simpa using ht
                have ht3 : ((zt : Int) == (pt : Int)) = false := by simp; omega
                go_wp2_with (fail)
                go_meet
                case rel => exact ⟨rfl, rfl⟩
            · have hf1 : (f2 == 0) = false := by simpa using hf0
              by_cases ht : zt = pt
              · subst ht
                by_cases hv : 0 ≤ pn
                · have he := hnd rfl hv
                  subst he
                  go_wp2_with (fail)
                  go_meet
                  case rel => exact ⟨rfl, rfl⟩
                · have hv2 : pn < 0 := by omega
                  go_wp2_with (fail)
                  go_meet
                  case rel => exact ⟨rfl, rfl⟩
              · have ht2 : (zt == pt) = false := by simpa using ht
                have ht3 : ((zt : Int) == (pt : Int)) = false := by simp; omega
                go_wp2_with (fail)
                go_meet
                case rel => exact ⟨rfl, rfl⟩
          case rest =>
            obtain ⟨rfl, hwc⟩ := hcut
            rw [hwc]
            clear hwc
            go_wp2_with (first
              | (at_builtin; refine wpL_app (o := ⟨some 132, _, _, _, _, _⟩) (v := u6) (y := .slice (some ⟨W8.heap.size, 0, none⟩) 1 1) rfl (.tmp 129) (.tmp 131) _ _ rfl E_prom rfl rfl (owns_below HTL8.out ((Below.refl _ _).alloc (Nat.le_refl _) _)) (Src.lit Try.underlying83 #[.int .u64 (v2.term : Int), .int .i64 v2.node] rfl (by simp [Value.oneCell'])) (by unfold maxLen; omega) (by omega) (Nat.le_trans HV8.out.bel.size (by simp)) ?_
                 intro tv' w9 hown9 hg9 hat9)
              | fail)
            have hlen : Vv.lay.flat (l ++ [v2]) = Vv.lay.flat l ++ #[.int .u64 (v2.term : Int), .int .i64 v2.node].toList := by
              unfold Lay.flat
              rw [List.flatMap_append]
              rfl
            rw [← hlen] at hown9
            have hk9 : Keeps (fun j => X1 j ∧ w.heap.size ≤ j) W8 w9 := ((Keeps.refl _ _).alloc _).grown hg9 (fun k hk => .inl ⟨HXt.out k hk, (HTB.out k hk).1⟩)
            have hz9 := hg9.size
            have hV9 := HV8.out.grow (X' := fun j => tv'.ownBlock = some j) hk9 (fun j hj => by
              have hlt9 := (hown9.lt j hj).2
              rcases hat9 with e | e
              · rw [e] at hj
                exact ⟨.inl (HXt.out j hj), hlt9⟩
              · rw [e] at hj
                have := Option.some.inj hj
                exact ⟨.inr (by simp at this; omega), hlt9⟩)
            have HV9 := Lib.hid (hV9.le (M' := 200 * (i + 1)) (by omega))
            have HOWN := Lib.hid hown9
            have HST := Lib.hid (HLL.out.2.snoc hle)
            clear hown9 hg9 hat9 hlen hk9 hz9 hV9
            go_roundw
            case rel => exact ⟨i + 1, V, by omega, by go_num, rfl, ⟨T, d2, t2, v2, l ++ [v2], HV9.out, HG3.out, HX3.out.2, by have := HX3.out.1; have := HF.out.2; omega, HOWN.out, by rw [List.length_append, List.length_singleton, HLL.out.1], HST.out⟩⟩
            case measure => simp [intOf]; omega

        · have hfu2 : 0 ≤ fu := by omega
          rw [if_pos rfl] at hro
          generalize hr2 : vstep d1 t1 v1 (v1.casted x nd) = r2 at hro
          obtain ⟨d2, t2, v2, f2⟩ := r2
          dsimp only at hro
          have hca2 : ∀ {W : World} {T V M : Nat}, Vlx X1 w W w.heap.size g T V M d1 t1 v1 → M ≤ 90000 → Calls Try.prog 31 #[.pointer (some ⟨V, 0, none⟩), .int .u64 (x : Int), .int .i64 nd] W (Vpost X1 w W w.heap.size g T V M (d2, t2, v2, f2)) := fun {W T V M} h hM => by
            have h1 := HO1.out
            rw [← hr2]
            exact vcast_any h ⟨h1.place.1, h1.place.2, h1.tb, h1.ts, h1.x0, by have h2 : t1.next ≤ t.next + 1 := h1.next; have := HF.out.2; omega, by have h2 : d1.n = dF.n := h1.n; have := HNF.out; omega⟩ hM x nd hwn h1.vote
          have HCA := fun {W : World} {T V M : Nat} => Lib.hid (@hca2 W T V M)
          clear hca2 hr2
          obtain ⟨d3, hd3⟩ : ∃ d3, d3 = d2.crash ks := ⟨_, rfl⟩
          obtain ⟨p3, g3, x3, n3, rel⟩ := hro.2 ks d3 hd3
          obtain ⟨t3, ht3⟩ : ∃ t, t = openTv 1 1 (d3.bytes 1 (2 * 1)) := ⟨_, rfl⟩
          rw [← ht3] at g3 x3
          have HG3 := Lib.hid g3
          have HX3 := Lib.hid (And.intro x3 (n3.trans HNF.out))
          have HREL := Lib.hid rel
          have HD3 := Lib.hid hd3
          have HT3 := Lib.hid ht3
          clear hro g3 x3 n3 rel hd3 ht3
          go_upto_region 23 with (first
                    | (go_at_call 30; refine HRA.out.mono ?_; rintro e w4 ⟨rfl, hV4, hk4⟩
                       have o0 := off_cell hk4 (.inl HXq.out) o0
                       have o1 := off_cell hk4 (.inl HXq.out) o1
                       have o2 := off_cell hk4 (.inl HXq.out) o2
                       have o3 := off_cell hk4 (.inl HXq.out) o3
                       have o4 := off_cell hk4 (.inl HXq.out) o4)
                    | (go_at_call 31; refine (HCA.out hV4 (by omega)).mono ?_; rintro e w5 ⟨rfl, hV5, hk5⟩
                       have o0 := off_cell hk5 (.inl HXq.out) o0
                       have o1 := off_cell hk5 (.inl HXq.out) o1
                       have o2 := off_cell hk5 (.inl HXq.out) o2
                       have o3 := off_cell hk5 (.inl HXq.out) o3
                       have o4 := off_cell hk5 (.inl HXq.out) o4)
                    | (go_at_call 20; refine (dlx_crash hV5.dlx (by omega) kA kn kc ks (HKR.out.below hV5.bel) (by omega)).mono ?_; rintro e w6 ⟨rfl, hD6, hk6⟩
                       have o0 := off_cell hk6 (.inl HXq.out) o0
                       have o1 := off_cell hk6 (.inl HXq.out) o1
                       have o2 := off_cell hk6 (.inl HXq.out) o2
                       have o3 := off_cell hk6 (.inl HXq.out) o3
                       have o4 := off_cell hk6 (.inl HXq.out) o4
                       have hD6 : Dlx X1 w w6 w.heap.size g (200 * i + 80 + 80 + 16) d3 := by rw [HD3.out]; exact hD6)
                    | (go_at_call 28; refine (vopn_any hD6 HG3.out.up 1 (by decide) (by rw [HX3.out.2]; decide) t3 HT3.out p3 HG3.out.told).mono ?_; rintro e w7 ⟨T7, V7, rfl, hV7, hb7⟩
                       have hk7 : Keeps (Off X1 w) w6 w7 := Keeps.of_below hb7
                       have o0 := off_cell hk7 (.inl HXq.out) o0
                       have o1 := off_cell hk7 (.inl HXq.out) o1
                       have o2 := off_cell hk7 (.inl HXq.out) o2
                       have o3 := off_cell hk7 (.inl HXq.out) o3
                       have o4 := off_cell hk7 (.inl HXq.out) o4)
                    | fail)
          have hkz : Keeps (Off X1 w) W2 w7 := (((hk4.trans hk5 (fun i h => .inl h)).trans hk6 (fun i h => .inl h)).trans hk7 (fun i h => .inl h))
          have HVz := Lib.hid hV7
          have HTLz := Lib.hid (owns_off HTL2.out hkz HXt.out)
          have HRWz := Lib.hid (hkz.row HRW2.out (fun ho => ho.2 HXw.out))
          clear hkz hV7 hk4 hk5 hk6 hk7 hV4 hV5 hD6 hb7
          have hha := has_any HVz.out.vw (by have := HG3.out.vote; omega)
          unfold Vv.cells at hha
          have HHA := Lib.hid hha
          clear hha
          go_upto_region 24 with (first
            | (go_at_call 32; refine HHA.out.mono ?_; rintro e w8 ⟨rfl, hb8⟩)
            | fail)
          obtain ⟨W8, hW8⟩ : ∃ W8, W8 = w8.alloc (.cells #[.int .u64 (p3.term : Int), .int .i64 p3.node] 74) := ⟨_, rfl⟩
          rw [← hW8]
          obtain ⟨nb, hnb⟩ : ∃ nb, nb = w8.heap.size := ⟨_, rfl⟩
          rw [← hnb]
          have hb8W : Below w8.heap.size w8 W8 := by rw [hW8]; exact (Below.refl _ _).alloc (Nat.le_refl _) _
          have rn8 : W8.heap[nb]? = some (.cells #[.int .u64 (p3.term : Int), .int .i64 p3.node] 74 (0, 0)) := by rw [hW8, hnb]; exact row_here _ _ rfl
          have hbz8 := hb8.trans (hb8W.mono hb8.size)
          have hk8 : Keeps (Off X1 w) w7 W8 := Keeps.of_below hbz8
          have o0 := off_cell hk8 (.inl HXq.out) o0
          have o1 := off_cell hk8 (.inl HXq.out) o1
          have o2 := off_cell hk8 (.inl HXq.out) o2
          have rwb := hk8.row HRWz.out (fun ho => ho.2 HXw.out)
          have e0 := cell_of_row W8 _ 0 _ _ _ rwb
          have e1 := cell_of_row W8 _ 1 _ _ _ rwb
          have n0 := cell_of_row W8 _ 0 _ _ _ rn8
          have n1 := cell_of_row W8 _ 1 _ _ _ rn8
          simp at e0 e1 n0 n1
          have HV8 := Lib.hid (HVz.out.below hbz8)
          have HTL8 := Lib.hid (owns_below HTLz.out hbz8)
          have HW8s := Lib.hid hbz8.size
          clear hb8 hW8 hnb hb8W rn8 hbz8 hk8 rwb o3 o4 HHA
          have hle := HREL.out.1
          have hzz := HREL.out.2
          go_cut [128] (fun u wx => u = .bool false ∧ wx = W8)
          case first =>
            have hbo : ∀ a : Vv, 0 ≤ a.node ↔ a.vote ≠ 0 := fun a => by unfold Vv.node; split <;> omega
            have hnd : p.term = p3.term → 0 ≤ p.node → p3.node = p.node := fun e hv => by
              have h1 := hle.2 e ((hbo p).1 hv)
              unfold Vv.node
              rw [h1]
            have hlt2 : p.term ≤ p3.term := hle.1
            generalize hpn : p.node = pn at *
            generalize hpt : p.term = pt at *
            generalize hzn : p3.node = zn at *
            generalize hzt : p3.term = zt at *
            clear hle hbo
            have y1 : ¬ zt < pt := by omega
            have y2 : decide (zt < pt) = false := by simpa using y1
            have y3 : (pt : Int) ≤ (zt : Int) := by omega
            by_cases hf0 : f2 = 0
            · obtain ⟨ha, hb⟩ := hzz hf0
              subst hf0
              subst ha
              have hb := hb rfl
              subst hb
              by_cases ht : zt = pt
              · subst ht
                by_cases hv : 0 ≤ pn
                · have he := hnd rfl hv
                  subst he
                  go_wp2_with (fail)
                  go_meet
                  case rel => exact ⟨rfl, rfl⟩
                · have hv2 : pn < 0 := by omega
                  go_wp2_with (fail)
                  go_meet
                  case rel => exact ⟨rfl, rfl⟩
              · have ht2 : (zt == pt) = false := by simpa using ht
                have ht3 : ((zt : Int) == (pt : Int)) = false := by simp; omega
                go_wp2_with (fail)
                go_meet
                case rel => exact ⟨rfl, rfl⟩
            · have hf1 : (f2 == 0) = false := by simpa using hf0
              by_cases ht : zt = pt
              · subst ht
                by_cases hv : 0 ≤ pn
                · have he := hnd rfl hv
                  subst he
                  go_wp2_with (fail)
                  go_meet
                  case rel => exact ⟨rfl, rfl⟩
                · have hv2 : pn < 0 := by omega
                  go_wp2_with (fail)
                  go_meet
                  case rel => exact ⟨rfl, rfl⟩
              · have ht2 : (zt == pt) = false := by simpa using ht
                have ht3 : ((zt : Int) == (pt : Int)) = false := by simp; omega
                go_wp2_with (fail)
                go_meet
                case rel => exact ⟨rfl, rfl⟩
          case rest =>
            obtain ⟨rfl, hwc⟩ := hcut
            rw [hwc]
            clear hwc
            go_wp2_with (first
              | (at_builtin; refine wpL_app (o := ⟨some 132, _, _, _, _, _⟩) (v := u6) (y := .slice (some ⟨W8.heap.size, 0, none⟩) 1 1) rfl (.tmp 129) (.tmp 131) _ _ rfl E_prom rfl rfl (owns_below HTL8.out ((Below.refl _ _).alloc (Nat.le_refl _) _)) (Src.lit Try.underlying83 #[.int .u64 (p3.term : Int), .int .i64 p3.node] rfl (by simp [Value.oneCell'])) (by unfold maxLen; omega) (by omega) (Nat.le_trans HV8.out.bel.size (by simp)) ?_
                 intro tv' w9 hown9 hg9 hat9)
              | fail)
            have hlen : Vv.lay.flat (l ++ [p3]) = Vv.lay.flat l ++ #[.int .u64 (p3.term : Int), .int .i64 p3.node].toList := by
              unfold Lay.flat
              rw [List.flatMap_append]
              rfl
            rw [← hlen] at hown9
            have hk9 : Keeps (fun j => X1 j ∧ w.heap.size ≤ j) W8 w9 := ((Keeps.refl _ _).alloc _).grown hg9 (fun k hk => .inl ⟨HXt.out k hk, (HTB.out k hk).1⟩)
            have hz9 := hg9.size
            have hV9 := HV8.out.grow (X' := fun j => tv'.ownBlock = some j) hk9 (fun j hj => by
              have hlt9 := (hown9.lt j hj).2
              rcases hat9 with e | e
              · rw [e] at hj
                exact ⟨.inl (HXt.out j hj), hlt9⟩
              · rw [e] at hj
                have := Option.some.inj hj
                exact ⟨.inr (by simp at this; omega), hlt9⟩)
            have HV9 := Lib.hid (hV9.le (M' := 200 * (i + 1)) (by omega))
            have HOWN := Lib.hid hown9
            have HST := Lib.hid (HLL.out.2.snoc hle)
            clear hown9 hg9 hat9 hlen hk9 hz9 hV9
            go_roundw
            case rel => exact ⟨i + 1, V7, by omega, by go_num, rfl, ⟨T7, d3, t3, p3, l ++ [p3], HV9.out, HG3.out, HX3.out.2, by have := HX3.out.1; have := HF.out.2; omega, HOWN.out, by rw [List.length_append, List.length_singleton, HLL.out.1], HST.out⟩⟩
            case measure => simp [intOf]; omega

      · by_cases hfu : fu < 0
        · skip
          rw [if_neg hkd] at hro
          have qk : (kd == 1) = false := by simpa using hkd
          obtain ⟨d2, hd2⟩ : ∃ d2, d2 = d1 := ⟨_, rfl⟩
          obtain ⟨t2, ht2⟩ : ∃ t2, t2 = t1 := ⟨_, rfl⟩
          obtain ⟨v2, hv2⟩ : ∃ v2, v2 = v1 := ⟨_, rfl⟩
          obtain ⟨f2, hf2⟩ : ∃ f2, f2 = f1 := ⟨_, rfl⟩
          obtain ⟨g3, x3, n3, rel⟩ := hro.1 (HFZ.out hfu)
          have HG3 := Lib.hid g3
          have HX3 := Lib.hid (And.intro x3 (n3.trans HNF.out))
          have HREL := Lib.hid rel
          clear hro g3 x3 n3 rel
          go_upto_region 23 with (first
                    | (go_at_call 30; refine HRA.out.mono ?_; rintro e w4 ⟨rfl, hV4, hk4⟩
                       have o0 := off_cell hk4 (.inl HXq.out) o0
                       have o1 := off_cell hk4 (.inl HXq.out) o1
                       have o2 := off_cell hk4 (.inl HXq.out) o2
                       have o3 := off_cell hk4 (.inl HXq.out) o3
                       have o4 := off_cell hk4 (.inl HXq.out) o4)
                    | fail)
          have hkz : Keeps (Off X1 w) W2 w4 := hk4
          have HVz := Lib.hid hV4
          have HTLz := Lib.hid (owns_off HTL2.out hkz HXt.out)
          have HRWz := Lib.hid (hkz.row HRW2.out (fun ho => ho.2 HXw.out))
          clear hkz hV4 hk4
          have hha := has_any HVz.out.vw (by have := HG3.out.vote; omega)
          unfold Vv.cells at hha
          have HHA := Lib.hid hha
          clear hha
          go_upto_region 24 with (first
            | (go_at_call 32; refine HHA.out.mono ?_; rintro e w8 ⟨rfl, hb8⟩)
            | fail)
          obtain ⟨W8, hW8⟩ : ∃ W8, W8 = w8.alloc (.cells #[.int .u64 (v1.term : Int), .int .i64 v1.node] 74) := ⟨_, rfl⟩
          rw [← hW8]
          obtain ⟨nb, hnb⟩ : ∃ nb, nb = w8.heap.size := ⟨_, rfl⟩
          rw [← hnb]
          have hb8W : Below w8.heap.size w8 W8 := by rw [hW8]; exact (Below.refl _ _).alloc (Nat.le_refl _) _
          have rn8 : W8.heap[nb]? = some (.cells #[.int .u64 (v1.term : Int), .int .i64 v1.node] 74 (0, 0)) := by rw [hW8, hnb]; exact row_here _ _ rfl
          have hbz8 := hb8.trans (hb8W.mono hb8.size)
          have hk8 : Keeps (Off X1 w) w4 W8 := Keeps.of_below hbz8
          have o0 := off_cell hk8 (.inl HXq.out) o0
          have o1 := off_cell hk8 (.inl HXq.out) o1
          have o2 := off_cell hk8 (.inl HXq.out) o2
          have rwb := hk8.row HRWz.out (fun ho => ho.2 HXw.out)
          have e0 := cell_of_row W8 _ 0 _ _ _ rwb
          have e1 := cell_of_row W8 _ 1 _ _ _ rwb
          have n0 := cell_of_row W8 _ 0 _ _ _ rn8
          have n1 := cell_of_row W8 _ 1 _ _ _ rn8
          simp at e0 e1 n0 n1
          have HV8 := Lib.hid (HVz.out.below hbz8)
          have HTL8 := Lib.hid (owns_below HTLz.out hbz8)
          have HW8s := Lib.hid hbz8.size
          clear hb8 hW8 hnb hb8W rn8 hbz8 hk8 rwb o3 o4 HHA
          have hle := HREL.out.1
          have hzz := HREL.out.2
          go_cut [128] (fun u wx => u = .bool false ∧ wx = W8)
          case first =>
            have hbo : ∀ a : Vv, 0 ≤ a.node ↔ a.vote ≠ 0 := fun a => by unfold Vv.node; split <;> omega
            have hnd : p.term = v1.term → 0 ≤ p.node → v1.node = p.node := fun e hv => by
              have h1 := hle.2 e ((hbo p).1 hv)
              unfold Vv.node
              rw [h1]
            have hlt2 : p.term ≤ v1.term := hle.1
            generalize hpn : p.node = pn at *
            generalize hpt : p.term = pt at *
            generalize hzn : v1.node = zn at *
            generalize hzt : v1.term = zt at *
            clear hle hbo
            have y1 : ¬ zt < pt := by omega
            have y2 : decide (zt < pt) = false := by simpa using y1
            have y3 : (pt : Int) ≤ (zt : Int) := by omega
            by_cases hf0 : f1 = 0
            · obtain ⟨ha, hb⟩ := hzz hf0
              subst hf0
              subst ha
              by_cases ht : zt = pt
              · subst ht
                by_cases hv : 0 ≤ pn
                · have he := hnd rfl hv
                  subst he
                  go_wp2_with (fail)
                  go_meet
                  case rel => exact ⟨rfl, rfl⟩
                · have hv2 : pn < 0 := by omega
                  go_wp2_with (fail)
                  go_meet
                  case rel => exact ⟨rfl, rfl⟩
              · have ht2 : (zt == pt) = false := by simpa using ht
                have ht3 : ((zt : Int) == (pt : Int)) = false := by simp; omega
                go_wp2_with (fail)
                go_meet
                case rel => exact ⟨rfl, rfl⟩
            · have hf1 : (f1 == 0) = false := by simpa using hf0
              by_cases ht : zt = pt
              · subst ht
                by_cases hv : 0 ≤ pn
                · have he := hnd rfl hv
                  subst he
                  go_wp2_with (fail)
                  go_meet
                  case rel => exact ⟨rfl, rfl⟩
                · have hv2 : pn < 0 := by omega
                  go_wp2_with (fail)
                  go_meet
                  case rel => exact ⟨rfl, rfl⟩
              · have ht2 : (zt == pt) = false := by simpa using ht
                have ht3 : ((zt : Int) == (pt : Int)) = false := by simp; omega
                go_wp2_with (fail)
                go_meet
                case rel => exact ⟨rfl, rfl⟩
          case rest =>
            obtain ⟨rfl, hwc⟩ := hcut
            rw [hwc]
            clear hwc
            go_wp2_with (first
              | (at_builtin; refine wpL_app (o := ⟨some 132, _, _, _, _, _⟩) (v := u6) (y := .slice (some ⟨W8.heap.size, 0, none⟩) 1 1) rfl (.tmp 129) (.tmp 131) _ _ rfl E_prom rfl rfl (owns_below HTL8.out ((Below.refl _ _).alloc (Nat.le_refl _) _)) (Src.lit Try.underlying83 #[.int .u64 (v1.term : Int), .int .i64 v1.node] rfl (by simp [Value.oneCell'])) (by unfold maxLen; omega) (by omega) (Nat.le_trans HV8.out.bel.size (by simp)) ?_
                 intro tv' w9 hown9 hg9 hat9)
              | fail)
            have hlen : Vv.lay.flat (l ++ [v1]) = Vv.lay.flat l ++ #[.int .u64 (v1.term : Int), .int .i64 v1.node].toList := by
              unfold Lay.flat
              rw [List.flatMap_append]
              rfl
            rw [← hlen] at hown9
            have hk9 : Keeps (fun j => X1 j ∧ w.heap.size ≤ j) W8 w9 := ((Keeps.refl _ _).alloc _).grown hg9 (fun k hk => .inl ⟨HXt.out k hk, (HTB.out k hk).1⟩)
            have hz9 := hg9.size
            have hV9 := HV8.out.grow (X' := fun j => tv'.ownBlock = some j) hk9 (fun j hj => by
              have hlt9 := (hown9.lt j hj).2
              rcases hat9 with e | e
              · rw [e] at hj
                exact ⟨.inl (HXt.out j hj), hlt9⟩
              · rw [e] at hj
                have := Option.some.inj hj
                exact ⟨.inr (by simp at this; omega), hlt9⟩)
            have HV9 := Lib.hid (hV9.le (M' := 200 * (i + 1)) (by omega))
            have HOWN := Lib.hid hown9
            have HST := Lib.hid (HLL.out.2.snoc hle)
            clear hown9 hg9 hat9 hlen hk9 hz9 hV9
            go_roundw
            case rel => exact ⟨i + 1, V, by omega, by go_num, rfl, ⟨T, d1, t1, v1, l ++ [v1], HV9.out, HG3.out, HX3.out.2, by have := HX3.out.1; have := HF.out.2; omega, HOWN.out, by rw [List.length_append, List.length_singleton, HLL.out.1], HST.out⟩⟩
            case measure => simp [intOf]; omega

        · have hfu2 : 0 ≤ fu := by omega
          rw [if_neg hkd] at hro
          have qk : (kd == 1) = false := by simpa using hkd
          obtain ⟨d2, hd2⟩ : ∃ d2, d2 = d1 := ⟨_, rfl⟩
          obtain ⟨t2, ht2⟩ : ∃ t2, t2 = t1 := ⟨_, rfl⟩
          obtain ⟨v2, hv2⟩ : ∃ v2, v2 = v1 := ⟨_, rfl⟩
          obtain ⟨f2, hf2⟩ : ∃ f2, f2 = f1 := ⟨_, rfl⟩
          obtain ⟨d3, hd3⟩ : ∃ d3, d3 = d1.crash ks := ⟨_, rfl⟩
          obtain ⟨p3, g3, x3, n3, rel⟩ := hro.2 ks d3 hd3
          obtain ⟨t3, ht3⟩ : ∃ t, t = openTv 1 1 (d3.bytes 1 (2 * 1)) := ⟨_, rfl⟩
          rw [← ht3] at g3 x3
          have HG3 := Lib.hid g3
          have HX3 := Lib.hid (And.intro x3 (n3.trans HNF.out))
          have HREL := Lib.hid rel
          have HD3 := Lib.hid hd3
          have HT3 := Lib.hid ht3
          clear hro g3 x3 n3 rel hd3 ht3
          go_upto_region 23 with (first
                    | (go_at_call 30; refine HRA.out.mono ?_; rintro e w4 ⟨rfl, hV4, hk4⟩
                       have o0 := off_cell hk4 (.inl HXq.out) o0
                       have o1 := off_cell hk4 (.inl HXq.out) o1
                       have o2 := off_cell hk4 (.inl HXq.out) o2
                       have o3 := off_cell hk4 (.inl HXq.out) o3
                       have o4 := off_cell hk4 (.inl HXq.out) o4)
                    | (go_at_call 20; refine (dlx_crash hV4.dlx (by omega) kA kn kc ks (HKR.out.below hV4.bel) (by omega)).mono ?_; rintro e w6 ⟨rfl, hD6, hk6⟩
                       have o0 := off_cell hk6 (.inl HXq.out) o0
                       have o1 := off_cell hk6 (.inl HXq.out) o1
                       have o2 := off_cell hk6 (.inl HXq.out) o2
                       have o3 := off_cell hk6 (.inl HXq.out) o3
                       have o4 := off_cell hk6 (.inl HXq.out) o4
                       have hD6 : Dlx X1 w w6 w.heap.size g (200 * i + 80 + 16) d3 := by rw [HD3.out]; exact hD6)
                    | (go_at_call 28; refine (vopn_any hD6 HG3.out.up 1 (by decide) (by rw [HX3.out.2]; decide) t3 HT3.out p3 HG3.out.told).mono ?_; rintro e w7 ⟨T7, V7, rfl, hV7, hb7⟩
                       have hk7 : Keeps (Off X1 w) w6 w7 := Keeps.of_below hb7
                       have o0 := off_cell hk7 (.inl HXq.out) o0
                       have o1 := off_cell hk7 (.inl HXq.out) o1
                       have o2 := off_cell hk7 (.inl HXq.out) o2
                       have o3 := off_cell hk7 (.inl HXq.out) o3
                       have o4 := off_cell hk7 (.inl HXq.out) o4)
                    | fail)
          have hkz : Keeps (Off X1 w) W2 w7 := ((hk4.trans hk6 (fun i h => .inl h)).trans hk7 (fun i h => .inl h))
          have HVz := Lib.hid hV7
          have HTLz := Lib.hid (owns_off HTL2.out hkz HXt.out)
          have HRWz := Lib.hid (hkz.row HRW2.out (fun ho => ho.2 HXw.out))
          clear hkz hV7 hk4 hk6 hk7 hV4 hD6 hb7
          have hha := has_any HVz.out.vw (by have := HG3.out.vote; omega)
          unfold Vv.cells at hha
          have HHA := Lib.hid hha
          clear hha
          go_upto_region 24 with (first
            | (go_at_call 32; refine HHA.out.mono ?_; rintro e w8 ⟨rfl, hb8⟩)
            | fail)
          obtain ⟨W8, hW8⟩ : ∃ W8, W8 = w8.alloc (.cells #[.int .u64 (p3.term : Int), .int .i64 p3.node] 74) := ⟨_, rfl⟩
          rw [← hW8]
          obtain ⟨nb, hnb⟩ : ∃ nb, nb = w8.heap.size := ⟨_, rfl⟩
          rw [← hnb]
          have hb8W : Below w8.heap.size w8 W8 := by rw [hW8]; exact (Below.refl _ _).alloc (Nat.le_refl _) _
          have rn8 : W8.heap[nb]? = some (.cells #[.int .u64 (p3.term : Int), .int .i64 p3.node] 74 (0, 0)) := by rw [hW8, hnb]; exact row_here _ _ rfl
          have hbz8 := hb8.trans (hb8W.mono hb8.size)
          have hk8 : Keeps (Off X1 w) w7 W8 := Keeps.of_below hbz8
          have o0 := off_cell hk8 (.inl HXq.out) o0
          have o1 := off_cell hk8 (.inl HXq.out) o1
          have o2 := off_cell hk8 (.inl HXq.out) o2
          have rwb := hk8.row HRWz.out (fun ho => ho.2 HXw.out)
          have e0 := cell_of_row W8 _ 0 _ _ _ rwb
          have e1 := cell_of_row W8 _ 1 _ _ _ rwb
          have n0 := cell_of_row W8 _ 0 _ _ _ rn8
          have n1 := cell_of_row W8 _ 1 _ _ _ rn8
          simp at e0 e1 n0 n1
          have HV8 := Lib.hid (HVz.out.below hbz8)
          have HTL8 := Lib.hid (owns_below HTLz.out hbz8)
          have HW8s := Lib.hid hbz8.size
          clear hb8 hW8 hnb hb8W rn8 hbz8 hk8 rwb o3 o4 HHA
          have hle := HREL.out.1
          have hzz := HREL.out.2
          go_cut [128] (fun u wx => u = .bool false ∧ wx = W8)
          case first =>
            have hbo : ∀ a : Vv, 0 ≤ a.node ↔ a.vote ≠ 0 := fun a => by unfold Vv.node; split <;> omega
            have hnd : p.term = p3.term → 0 ≤ p.node → p3.node = p.node := fun e hv => by
              have h1 := hle.2 e ((hbo p).1 hv)
              unfold Vv.node
              rw [h1]
            have hlt2 : p.term ≤ p3.term := hle.1
            generalize hpn : p.node = pn at *
            generalize hpt : p.term = pt at *
            generalize hzn : p3.node = zn at *
            generalize hzt : p3.term = zt at *
            clear hle hbo
            have y1 : ¬ zt < pt := by omega
            have y2 : decide (zt < pt) = false := by simpa using y1
            have y3 : (pt : Int) ≤ (zt : Int) := by omega
            by_cases hf0 : f1 = 0
            · obtain ⟨ha, hb⟩ := hzz hf0
              subst hf0
              subst ha
              by_cases ht : zt = pt
              · subst ht
                by_cases hv : 0 ≤ pn
                · have he := hnd rfl hv
                  subst he
                  go_wp2_with (fail)
                  go_meet
                  case rel => exact ⟨rfl, rfl⟩
                · have hv2 : pn < 0 := by omega
                  go_wp2_with (fail)
                  go_meet
                  case rel => exact ⟨rfl, rfl⟩
              · have ht2 : (zt == pt) = false := by simpa using ht
                have ht3 : ((zt : Int) == (pt : Int)) = false := by simp; omega
                go_wp2_with (fail)
                go_meet
                case rel => exact ⟨rfl, rfl⟩
            · have hf1 : (f1 == 0) = false := by simpa using hf0
              by_cases ht : zt = pt
              · subst ht
                by_cases hv : 0 ≤ pn
                · have he := hnd rfl hv
                  subst he
                  go_wp2_with (fail)
                  go_meet
                  case rel => exact ⟨rfl, rfl⟩
                · have hv2 : pn < 0 := by omega
                  go_wp2_with (fail)
                  go_meet
                  case rel => exact ⟨rfl, rfl⟩
              · have ht2 : (zt == pt) = false := by simpa using ht
                have ht3 : ((zt : Int) == (pt : Int)) = false := by simp; omega
                go_wp2_with (fail)
                go_meet
                case rel => exact ⟨rfl, rfl⟩
          case rest =>
            obtain ⟨rfl, hwc⟩ := hcut
            rw [hwc]
            clear hwc
            go_wp2_with (first
              | (at_builtin; refine wpL_app (o := ⟨some 132, _, _, _, _, _⟩) (v := u6) (y := .slice (some ⟨W8.heap.size, 0, none⟩) 1 1) rfl (.tmp 129) (.tmp 131) _ _ rfl E_prom rfl rfl (owns_below HTL8.out ((Below.refl _ _).alloc (Nat.le_refl _) _)) (Src.lit Try.underlying83 #[.int .u64 (p3.term : Int), .int .i64 p3.node] rfl (by simp [Value.oneCell'])) (by unfold maxLen; omega) (by omega) (Nat.le_trans HV8.out.bel.size (by simp)) ?_
                 intro tv' w9 hown9 hg9 hat9)
              | fail)
            have hlen : Vv.lay.flat (l ++ [p3]) = Vv.lay.flat l ++ #[.int .u64 (p3.term : Int), .int .i64 p3.node].toList := by
              unfold Lay.flat
              rw [List.flatMap_append]
              rfl
            rw [← hlen] at hown9
            have hk9 : Keeps (fun j => X1 j ∧ w.heap.size ≤ j) W8 w9 := ((Keeps.refl _ _).alloc _).grown hg9 (fun k hk => .inl ⟨HXt.out k hk, (HTB.out k hk).1⟩)
            have hz9 := hg9.size
            have hV9 := HV8.out.grow (X' := fun j => tv'.ownBlock = some j) hk9 (fun j hj => by
              have hlt9 := (hown9.lt j hj).2
              rcases hat9 with e | e
              · rw [e] at hj
                exact ⟨.inl (HXt.out j hj), hlt9⟩
              · rw [e] at hj
                have := Option.some.inj hj
                exact ⟨.inr (by simp at this; omega), hlt9⟩)
            have HV9 := Lib.hid (hV9.le (M' := 200 * (i + 1)) (by omega))
            have HOWN := Lib.hid hown9
            have HST := Lib.hid (HLL.out.2.snoc hle)
            clear hown9 hg9 hat9 hlen hk9 hz9 hV9
            go_roundw
            case rel => exact ⟨i + 1, V7, by omega, by go_num, rfl, ⟨T7, d3, t3, p3, l ++ [p3], HV9.out, HG3.out, HX3.out.2, by have := HX3.out.1; have := HF.out.2; omega, HOWN.out, by rw [List.length_append, List.length_singleton, HLL.out.1], HST.out⟩⟩
            case measure => simp [intOf]; omega

    · obtain rfl : i = n := by omega
      generalize wr = WR at *
      obtain ⟨tA, tc, rfl⟩ := ownsRow_form htl
      have htr := ownsRow_rd htl
      have hbw := hV.bel
      have HTR := Lib.hid htr
      have HBW := Lib.hid hbw
      have HLL := Lib.hid hll
      have HST := Lib.hid hst
      have hi60 : (i : Int) ≤ 60 := by omega
      have hic := htr.1
      have hcm := htr.2.1
      clear htl htr hbw hll hst hV hG hdn hnx
      go_wp2_with (fail)
      go_loopw [136] (fun jr wx => ∃ j : Nat, j ≤ i ∧ jr = .int .i64 (j : Int) ∧ Below WR.heap.size WR wx) (fun jr _ => i - (intOf jr).toNat)
      case atStart => exact ⟨0, Nat.zero_le _, rfl, Below.refl _ _⟩
      case round =>
        obtain ⟨j, hj, rfl, hbx⟩ := hrel
        by_cases hji : j < i
        · obtain ⟨a, ha⟩ : ∃ a, l[j]? = some a := ⟨_, List.getElem?_eq_getElem (by rw [HLL.out]; exact hji)⟩
          obtain ⟨b, o, rfl, hbb, hcc⟩ := HTR.out.2.2.2 (by omega)
          have hc := fun (W : World) (hb : Below WR.heap.size WR W) (m : Nat) (v : Vv) (hv : l[m]? = some v) (k : Nat) (u : Value) (hu : (Vv.cells v)[k]? = some u) => (hb.cell (p := ⟨b, o + (m * 2 + k), none⟩) hbb).trans (hcc _ _ (Vv.lay.flat_get l m v hv k u hu))
          have k0 : wr.cell? ⟨b, o + j * 2, none⟩ = some (.int .u64 (a.term : Int)) := hc _ hbx j a ha 0 _ rfl
          have k1 : wr.cell? ⟨b, o + j * 2 + 1, none⟩ = some (.int .i64 a.node) := hc _ hbx j a ha 1 _ rfl
          have HC := Lib.hid hc
          have HBX := Lib.hid hbx
          have HA := Lib.hid ha
          have hjii : (j : Int) < (i : Int) := by omega
          have hj60 : (j : Int) ≤ 60 := by omega
          have hjc : (j : Int) ≤ (tc : Int) := by omega
          clear hc hcc hbx ha
          obtain ⟨W3, hW3⟩ : ∃ W3, W3 = wr.alloc (.cells #[.int .u64 (a.term : Int), .int .i64 a.node] 74) := ⟨_, rfl⟩
          obtain ⟨ab, hab⟩ : ∃ ab, ab = wr.heap.size := ⟨_, rfl⟩
          have hb3 : Below wr.heap.size wr W3 := by rw [hW3]; exact (Below.refl _ _).alloc (Nat.le_refl _) _
          have r3 : W3.heap[ab]? = some (.cells #[.int .u64 (a.term : Int), .int .i64 a.node] 74 (0, 0)) := by rw [hW3, hab]; exact row_here _ _ rfl
          have HW3 := Lib.hid hW3
          have HAB := Lib.hid hab
          have HB3 := Lib.hid (HBX.out.trans (hb3.mono HBX.out.size))
          have HR3 := Lib.hid r3
          clear hW3 hab hb3 r3
          go_upto_region 31 with (fail)
          rw [← HW3.out, ← HAB.out]
          go_wp2_with (fail)
          go_loopw [145] (fun kr wy => ∃ k : Nat, k ≤ j ∧ kr = .int .i64 (k : Int) ∧ Below W3.heap.size W3 wy) (fun kr _ => j - (intOf kr).toNat)
          case atStart => exact ⟨0, Nat.zero_le _, rfl, Below.refl _ _⟩
          case round =>
            obtain ⟨k, hk, rfl, hby⟩ := hrel
            by_cases hkj : k < j
            · obtain ⟨v, hv⟩ : ∃ v, l[k]? = some v := ⟨_, List.getElem?_eq_getElem (by rw [HLL.out]; omega)⟩
              have hbz := HB3.out.trans (hby.mono HB3.out.size)
              have k0 : wr.cell? ⟨b, o + k * 2, none⟩ = some (.int .u64 (v.term : Int)) := HC.out _ hbz k v hv 0 _ rfl
              have k1 : wr.cell? ⟨b, o + k * 2 + 1, none⟩ = some (.int .i64 v.node) := HC.out _ hbz k v hv 1 _ rfl
              have r3 := (hby.block _ (Array.getElem?_eq_some_iff.1 HR3.out).1).trans HR3.out
              have a0 := cell_of_row _ _ 0 _ _ _ r3
              have a1 := cell_of_row _ _ 1 _ _ _ r3
              simp at a0 a1
              have hle := HST.out.2 j k a v hkj HA.out hv
              have hbo : ∀ a : Vv, 0 ≤ a.node ↔ a.vote ≠ 0 := fun a => by unfold Vv.node; split <;> omega
              have hnd : v.term = a.term → 0 ≤ v.node → a.node = v.node := fun e hv => by
                have h1 := hle.2 e ((hbo v).1 hv)
                unfold Vv.node
                rw [h1]
              have hkjj : (k : Int) < (j : Int) := by omega
              have hkjn : k < j := hkj
              have HBY := Lib.hid hby
              have hblt := (Array.getElem?_eq_some_iff.1 r3).1
              generalize hvn : v.node = vn at *
              generalize hvt : v.term = vt at *
              generalize han : a.node = an at *
              generalize hat : a.term = at_ at *
              obtain ⟨W5, hW5⟩ : ∃ W5, W5 = wr.alloc (.cells #[.int .u64 (vt : Int), .int .i64 vn] 74) := ⟨_, rfl⟩
              obtain ⟨vb, hvb⟩ : ∃ vb, vb = wr.heap.size := ⟨_, rfl⟩
              have hb5 : Below wr.heap.size wr W5 := by rw [hW5]; exact (Below.refl _ _).alloc (Nat.le_refl _) _
              have r5 : W5.heap[vb]? = some (.cells #[.int .u64 (vt : Int), .int .i64 vn] 74 (0, 0)) := by rw [hW5, hvb]; exact row_here _ _ rfl
              have b0 := cell_of_row W5 _ 0 _ _ _ r5
              have b1 := cell_of_row W5 _ 1 _ _ _ r5
              have a0 := kept hb5 a0 hblt
              have a1 := kept hb5 a1 hblt
              simp at b0 b1
              have HW5 := Lib.hid hW5
              have HVB := Lib.hid hvb
              have HB5 := Lib.hid (HBY.out.trans (hb5.mono HBY.out.size))
              clear hW5 hvb hb5 r5 hbz r3 hblt hle hbo hby
              go_upto_region 34 with (fail)
              rw [← HW5.out, ← HVB.out]
              go_cut [170] (fun u wx => u = .bool false ∧ wx = W5)
              case first =>
                by_cases ht : vt = at_
                · subst ht
                  by_cases hv2 : 0 ≤ vn
                  · have he := hnd rfl hv2
                    subst he
                    go_wp2_with (fail)
                    go_meet
                    case rel => exact ⟨rfl, rfl⟩
                  · have hv3 : vn < 0 := by omega
                    by_cases ha2 : 0 ≤ an
                    · go_wp2_with (fail)
                      go_meet
                      case rel => exact ⟨rfl, rfl⟩
                    · have ha3 : an < 0 := by omega
                      go_wp2_with (fail)
                      go_meet
                      case rel => exact ⟨rfl, rfl⟩
                · have ht2 : (at_ == vt) = false := by simp; omega
                  have ht3 : ((at_ : Int) == (vt : Int)) = false := by simp; omega
                  go_wp2_with (fail)
                  go_meet
                  case rel => exact ⟨rfl, rfl⟩
              case rest =>
                obtain ⟨rfl, hwc⟩ := hcut
                rw [hwc]
                clear hwc
                go_wp2_with (fail)
                go_roundw
                case rel => exact ⟨k + 1, by omega, by go_num, HB5.out⟩
                case measure => simp [intOf]; omega
            · obtain rfl : k = j := by omega
              have HBY := Lib.hid hby
              clear hby
              go_wp2_with (fail)
              go_roundw
              case rel => exact ⟨k + 1, by omega, by go_num, HB3.out.trans (HBY.out.mono HB3.out.size)⟩
              case measure => simp [intOf]; omega
        · obtain rfl : j = i := by omega
          have HBX := Lib.hid hbx
          clear hbx
          go_wp2_with (first
            | (go_at_call 27; refine (lives12 _).mono ?_; rintro e w9 ⟨rfl, hb9⟩)
            | fail)
          go_ret
          have hbb := HBW.out.trans (HBX.out.mono HBW.out.size)
          exact ⟨rfl, hbb.trans (hb9.mono hbb.size)⟩
theorem vowKept_walk {A : Option Addr} {n c : Nat} {os : List Vop} {w : World} (h : Slc Vop.lay w A n c os) :
    Calls Try.prog 7 #[.slice A n c] w fun e w' => e = .returned (.bool true) ∧ Below w.heap.size w w' := vowKept_at h


namespace vowKept
open Go.ChangeShapes Go.WideShapes Go.ChangeAt
set_option maxRecDepth 100000 in
theorem lifted (os : Os) (started : os.Started) (H : Type) (enc : TypeId × Value → H) :
    ReturnsInHanded {} Try.checked os 7 .any (Rows.vowKeptSpec.pre6 enc Try.prog Try.f7 Rows.vowKeptRow.domain false) (Rows.vowKeptSpec.post enc Try.prog Try.f7 false true false false) := by
  refine returnsInHanded_of_change (C := Try.checked) own started (by kernel_rfl) Try.func7
    (ChangeSpec.witness6 (enc := enc) (C := Try.checked) false ⟨#[], #[.slice none 0 0], []⟩ 8 (by kernel_rfl) (by kernel_rfl) (by kernel_rfl) (by kernel_rfl)) ?_
  intro W base args ds gs before hval0 hW _ _
  have hval : ∀ (j : Nat) t v, Try.f7.params[j]? = some t → args[j]? = some v → Value.okWide Try.prog W .any base t v := hval0
  have hW' := hW
  obtain ⟨p, q, hA0, hV, rfl, hfz, hnd⟩ := hW
  have hA : DataW.TrodAll enc Try.prog W 0 (fun _ => true) true Try.f7.params.toList args.toList ds p := hA0
  rw [Try.params7] at hA hval
  obtain ⟨v0, vs0, d0, ds0, p0, q0, hargs, rfl, rfl, h0, r0⟩ := trodAll_cons hA
  obtain ⟨rfl, rfl, rfl⟩ := trodAll_nil r0
  obtain rfl : args = #[v0] := by cases args; simp_all
  obtain ⟨rfl, rfl⟩ := trodVars_none hV
  have k0 := h0
  have lt0 : ∀ x ∈ p0, x.block < W.heap.size := by obtain ⟨m, hm⟩ := k0; exact DataW.trod_lt m _ _ _ hm
  obtain ⟨a0, n0, c0, l0, rfl, w0⟩ := Vop.dec (hval 0 69 v0 rfl rfl) h0
  clear hA0 hval0
  refine (vowKept_walk w0).mono fun e W' ⟨he, bel⟩ => ?_
  subst he
  exact ⟨_, rfl, _, _, _, [], _, [], hW', trodAll_mk1 (shut_bool Try.underlying4 _), (trodAll_cons_mk (Below.trod laidOut (by kernel_rfl) (of_decide_eq_true (by kernel_rfl)) k0 bel lt0) trodAll_mk0), rfl, bel.frame _, fun h => by cases h⟩

theorem over : Rows.vowKeptRow.holds Try.pinned (OpenSpec.ofChange Rows.vowKeptSpec) :=
  OpenClaim.holds_of_wide 7 Try.f7 rfl rfl rfl rfl rfl rfl rfl ⟨rfl, rfl, rfl, rfl, rfl⟩ rfl rfl rfl rfl rfl (by kernel_rfl) Try.func7 (by kernel_rfl)
    (of_decide_eq_true (by kernel_rfl)) (by unfold Func.isWrapper; first | (rw [if_pos (by decide +kernel)]; kernel_rfl) | (rw [if_neg (by decide +kernel)]; exact ⟨rfl, rfl⟩))
    (fun os started H enc _ => lifted os started H enc)
/-- The given statement. -/
theorem proved : Rows.VowKeptSaid := over
end vowKept

end Go.Proofs.Yteakdmabdfpiiaa
