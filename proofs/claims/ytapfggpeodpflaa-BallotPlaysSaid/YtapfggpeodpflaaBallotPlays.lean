/- BallotPlays: whoever votes, each call tells what the document says; once it is won, what is gone on with is what is merged of the voters' entries. -/
import Derived.Test.YtapfggpeodpflaaRowkitbM
import Derived.Test.YtapfggpeodpflaaBdecM
import Derived.Test.YtapfggpeodpflaaMrmergeM
namespace Go.Proofs.Ytapfggpeodpflaa
open Go.RowKit
set_option maxRecDepth 20000

theorem E_bools : Elem Try.prog 30 4 (.bool false) 1 1 := Elem.mk_ Try.underlying30 (by kernel_rfl) rfl (by decide)
theorem own_full {w : World} {base g n sz : Nat} {e : TypeId} {xs : List Value} (h : w.ownsRow base e sz (.slice (some ⟨g, 0, none⟩) n n) n xs) (hn : 0 < n) : w.heap[g]? = some (.cells xs.toArray e (0, 0)) ∧ base ≤ g := by
  obtain ⟨hl, h2⟩ := h
  rcases h2 with ⟨hv, _⟩ | ⟨g', cap, cur, hv, hbg, hg, hnc, hcm, hcs, htake⟩
  · cases hv
  · cases hv
    refine ⟨?_, hbg⟩
    rw [hg, ← htake, List.take_of_length_le (by rw [Array.length_toList]; omega)]
theorem made_h (M : Nat) : (madeCells (Value.slice none 0 0).cells (M * 1)).toList = hvc M fun _ => none := by
  unfold madeCells hvc
  rw [Nat.mul_one, Array.toList_map, Array.toList_range]
  refine List.map_congr_left fun k _ => ?_
  show (#[Value.slice none 0 0] : Array Value)[k % 1]! = _
  rw [Nat.mod_one]
  rfl
theorem made_v (M : Nat) : (madeCells (Value.bool false).cells (M * 1)).toList = vtc M fun _ => none := by
  unfold madeCells vtc
  rw [Nat.mul_one, Array.toList_map, Array.toList_range]
  refine List.map_congr_left fun k _ => ?_
  show (#[Value.bool false] : Array Value)[k % 1]! = _
  rw [Nat.mod_one]
  rfl
theorem upd_none (j : Nat) (l : Li) : upd (fun _ => none) j l = fun y => if y = j then some l else none := rfl
/-- The rows as they are made, beside a new ballot. -/
theorem bo_new {w w1 w2 w3 : World} {b M j bs : Nat} {x : Bl} {A0 : Option Addr} {n0 c0 : Nat} {own : List En} {rh rv : Nat} (hb1 : Below w.heap.size w w1) (hB : BlAt w1 b x) (hlo : w.heap.size ≤ x.m) (hnd : x.nd = nset M) (htm : x.tm = 9) (hbs : x.bs = bs) (htk : Took x (M : Int) (j : Int) own []) (hj : j < M)
    (h2 : w1.grownBy w2 none) (h3 : w2.grownBy w3 none) (hh : w2.heap[rh]? = some (.cells (hvc M fun _ => none).toArray 23 (0, 0))) (hv : w3.heap[rv]? = some (.cells (vtc M fun _ => none).toArray 4 (0, 0))) (l1 : w.heap.size ≤ rh) (l2 : w.heap.size ≤ rv) (hne : rh ≠ rv) :
    Bo w w3 rh rv M bs b x (fun _ => none) (upd (fun _ => none) j ⟨A0, n0, c0, own⟩) := by
  have b2 : Below w1.heap.size w1 w2 := (Below.refl _ _).grown h2 (Nat.le_refl _) (fun _ e => by cases e)
  have b3 : Below w2.heap.size w2 w3 := (Below.refl _ _).grown h3 (Nat.le_refl _) (fun _ e => by cases e)
  refine ⟨(hb1.trans (b2.mono hb1.size)).trans (b3.mono (Nat.le_trans hb1.size b2.size)), l1, l2, hne, row_below hh b3, hv, (fun _ _ h => by cases h), (fun _ _ h => by cases h), (fun _ _ h => by cases h), ?_, (hB.below b2).below b3, hlo, hnd, htm, hbs, ?_⟩
  · intro k l hk
    unfold upd at hk
    split at hk
    · next e => rw [e]; exact hj
    · cases hk
  · intro k
    rw [htk k]
    unfold Src upd
    by_cases hk : k = j
    · rw [if_pos (by omega), if_pos hk]
      rfl
    · rw [if_neg (by omega), if_neg hk]
      split <;> rfl
theorem free_row {w : World} {q j : Nat} {cs : Array Value} {t : TypeId} (h : w.heap[q]? = some (.cells cs t (0, 0))) : w.frozen? ⟨q, j, none⟩ = false := frozen_of_row w q j cs t h
theorem other_row {w : World} {q q' j : Nat} {cs cs' : Array Value} {t t' : TypeId} {u : Value} (h : w.heap[q]? = some (.cells cs t (0, 0))) (h' : w.heap[q']? = some (.cells cs' t' (0, 0))) (hne : q ≠ q') : (w.setCell ⟨q', j, none⟩ u).heap[q]? = some (.cells cs t (0, 0)) :=
  ((set_far (j := j) (u := u) h').2.block q (Array.getElem?_eq_some_iff.1 h).1 (fun e => hne (by cases e; rfl))).trans h
theorem vot_cell {w : World} {va M j : Nat} {g : Nat → Option Li} (h : w.heap[va]? = some (.cells (vtc M g).toArray 4 (0, 0))) (hj : j < M) : w.cell? ⟨va, j, none⟩ = some (.bool (g j).isSome) := by
  rw [cell_of_row w va j _ _ _ h, List.getElem?_toArray]
  unfold vtc
  simp [hj]
theorem hav_cell {w : World} {ha M j : Nat} {g : Nat → Option Li} (h : w.heap[ha]? = some (.cells (hvc M g).toArray 23 (0, 0))) (hj : j < M) : w.cell? ⟨ha, j, none⟩ = some ((g j).getD Li.zero).v := by
  rw [cell_of_row w ha j _ _ _ h, List.getElem?_toArray]
  unfold hvc
  simp [hj]
theorem Vo.ents {w : World} {v : Vo} (h : v.Reads w) : Ents w v.l.A v.l.n v.l.c v.l.es := h.2
theorem flat_le {Ls : List Li} (h : ∀ l ∈ Ls, l.es.length ≤ 20) : (flat Ls).length ≤ 20 * Ls.length := by
  induction Ls with
  | nil => exact Nat.le_refl _
  | cons a l ih =>
    have h1 := h a (List.mem_cons_self ..)
    have h2 := ih fun u hu => h u (List.mem_cons_of_mem _ hu)
    unfold flat at h2 ⊢
    rw [List.flatMap_cons, List.length_append, List.length_cons]
    omega
/-- What two lists that were merged of the same are to the reference's Same. -/
theorem same_call {w1 w2 wa wb : World} {base tm : Nat} {n : Int} {Ls Ls' : List Li} {A7 A8 : Option Addr} {H7 H8 c7 c8 : Nat} (h : (flat Ls).map En.bare = (flat Ls').map En.bare) (ha : TMerge w1 base tm n Ls (.returned (.slice A7 H7 c7)) wa) (hb : TMerge w2 base tm n Ls' (.returned (.slice A8 H8 c8)) wb) (hab : Below wa.heap.size wa wb) :
    Calls Try.prog 15 #[.slice A7 H7 c7, .slice A8 H8 c8] wb fun r w' => r = .returned (.bool true) ∧ Below wb.heap.size wb w' := by
  obtain ⟨B1, d1, f1, B2, d2, f2, H, hr1, hr2, he1, he2, hs⟩ := tmerge_same h ha hb
  injection hr1 with e1
  injection e1 with a1 a2 a3
  injection hr2 with e2
  injection e2 with b1 b2 b3
  subst a1 a2 a3 b1 b2 b3
  exact sames_any (he1.below hab) he2 hs
/-- What Merge tells, in short. -/
def TMg (base : Nat) (n : Int) (Ls : List Li) (w : World) (e : Ending) (w' : World) : Prop := ∃ A H c, e = .returned (.slice A H c) ∧ Hid (TMerge w base 9 n Ls (.returned (.slice A H c)) w') ∧ Below w.heap.size w w'
theorem tmg_of {base : Nat} {n : Int} {Ls : List Li} {w : World} {e : Ending} {w' : World} (h : TMerge w base 9 n Ls e w') : TMg base n Ls w e w' := by
  obtain ⟨A, c, es, rfl, h1, h2, h3⟩ := h
  exact ⟨A, _, c, rfl, Lib.hid ⟨A, c, es, rfl, h1, h2, h3⟩, h3⟩
set_option maxHeartbeats 8000000 in
theorem ballotPlays_walk {w : World} (N : Int) (_ : (Lit.int .i64 N).wf = true) (sf : Int) (_ : (Lit.int .i64 sf).wf = true) (mm : Int) (_ : (Lit.int .i64 mm).wf = true) (base : Nat) (hb : base < 18446744073709551616) {A0 : Option Addr} {n0 c0 : Nat} {own : List En} (h0 : Ents w A0 n0 c0 own) {A : Option Addr} {n c : Nat} {l : List Vo} (h : Slc Vo.lay w A n c l) :
    Calls Try.prog 3 #[.int .i64 N, .int .i64 sf, .int .i64 mm, .int .u64 (base : Int), .slice A0 n0 c0, .slice A n c] w fun e w' => e = .returned (.bool true) ∧ Below w.heap.size w w' := by
  have HV := Lib.hid lives26
  have HLT0 := Lib.hid (light26 base hb h0 h)
  unfold TVal at HV
  unfold LAns at HLT0
  have HH := Lib.hid h
  have H0 := Lib.hid h0
  have HO := Lib.hid h.len
  have HBB := Lib.hid hb
  have HNC := Lib.hid (And.intro h.rd.1 h.rd.2.1)
  clear h h0 hb
  go_enter Try.func3, Try.ntmps3
  go_wp2_with (first
    | (go_at_call 7
       refine HLT0.out.mono ?_
       rintro e w1 ⟨b1, rfl, hf1, hb1⟩
       have HF1 := Lib.hid hf1
       have HB1 := Lib.hid hb1
       have HBS := Lib.hid hb1.size
       clear hf1 hb1
       cases b1)
    | (go_at_call 9; fail)
    | fail)
  · go_wp2_with (first
      | (go_at_call 8; refine (HV.out _).mono ?_; rintro e w8 ⟨rfl, hb8⟩)
      | fail)
    go_ret
    exact ⟨rfl, HB1.out.trans (hb8.mono HB1.out.size)⟩
  have hfit := HF1.out trivial
  have hn12 : n ≤ 12 := by have := hfit.1; have := HO.out; omega
  have hni : (n : Int) ≤ 12 := by omega
  have hnc : (n : Int) ≤ (c : Int) := by have := HNC.out.1; omega
  have hcM : (c : Int) ≤ 9223372036854775807 := by have := HNC.out.2; unfold maxLen at this; omega
  have HFI := Lib.hid hfit
  by_cases hno : nosuch N sf
  · have HNB := Lib.hid (fun w' => new_no N sf (.int .u64 9) (.int .u64 (base : Int)) (.slice A0 n0 c0) hno w')
    unfold TVal at HNB
    clear hfit
    have hbad : N < 1 ∨ (1 ≤ N ∧ 7 < N) ∨ (1 ≤ N ∧ N ≤ 7 ∧ sf < 0) ∨ (1 ≤ N ∧ N ≤ 7 ∧ 0 ≤ sf ∧ N ≤ sf) := by unfold nosuch at hno; omega
    clear hno
    rcases hbad with h1 | ⟨h1, h2⟩ | ⟨h1, h2, h3⟩ | ⟨h1, h2, h3, h4⟩
    · have d1 : decide (N < 1) = true := by simpa using h1
      go_wp2_with (first
        | (go_at_call 9; refine (HNB.out _).mono ?_; rintro e w2 ⟨rfl, hb2⟩; have HB2 := Lib.hid (HB1.out.trans (hb2.mono HB1.out.size)); clear hb2)
        | (go_at_call 8; refine (HV.out _).mono ?_; rintro e w8 ⟨rfl, hb8⟩)
        | fail)
      go_ret
      exact ⟨rfl, HB2.out.trans (hb8.mono HB2.out.size)⟩
    · have d1 : decide (N < 1) = false := by simp; omega
      have d2 : decide (7 < N) = true := by simpa using h2
      go_wp2_with (first
        | (go_at_call 9; refine (HNB.out _).mono ?_; rintro e w2 ⟨rfl, hb2⟩; have HB2 := Lib.hid (HB1.out.trans (hb2.mono HB1.out.size)); clear hb2)
        | (go_at_call 8; refine (HV.out _).mono ?_; rintro e w8 ⟨rfl, hb8⟩)
        | fail)
      go_ret
      exact ⟨rfl, HB2.out.trans (hb8.mono HB2.out.size)⟩
    · have d1 : decide (N < 1) = false := by simp; omega
      have d2 : decide (7 < N) = false := by simp; omega
      have d3 : decide (sf < 0) = true := by simpa using h3
      go_wp2_with (first
        | (go_at_call 9; refine (HNB.out _).mono ?_; rintro e w2 ⟨rfl, hb2⟩; have HB2 := Lib.hid (HB1.out.trans (hb2.mono HB1.out.size)); clear hb2)
        | (go_at_call 8; refine (HV.out _).mono ?_; rintro e w8 ⟨rfl, hb8⟩)
        | fail)
      go_ret
      exact ⟨rfl, HB2.out.trans (hb8.mono HB2.out.size)⟩
    · have d1 : decide (N < 1) = false := by simp; omega
      have d2 : decide (7 < N) = false := by simp; omega
      have d3 : decide (sf < 0) = false := by simp; omega
      have d4 : decide (N ≤ sf) = true := by simpa using h4
      go_wp2_with (first
        | (go_at_call 9; refine (HNB.out _).mono ?_; rintro e w2 ⟨rfl, hb2⟩; have HB2 := Lib.hid (HB1.out.trans (hb2.mono HB1.out.size)); clear hb2)
        | (go_at_call 8; refine (HV.out _).mono ?_; rintro e w8 ⟨rfl, hb8⟩)
        | fail)
      go_ret
      exact ⟨rfl, HB2.out.trans (hb8.mono HB2.out.size)⟩
  obtain ⟨M, rfl⟩ : ∃ M : Nat, N = (M : Int) := ⟨N.toNat, by unfold nosuch at hno; omega⟩
  obtain ⟨j, rfl⟩ : ∃ j : Nat, sf = (j : Int) := ⟨sf.toNat, by unfold nosuch at hno; omega⟩
  have HN := Lib.hid (fun (w' : World) (hb : Below w.heap.size w w') => new_took (H0.out.below hb) hfit.2.2.1 (by have := H0.out.len; have := hfit.2.2.2.1; omega) (M : Int) (j : Int) 9 base (by decide) HBB.out)
  have H7 := Lib.hid (show 1 ≤ M ∧ M ≤ 7 ∧ j < M from by unfold nosuch at hno; omega)
  have HNO := Lib.hid hno
  have hM1 : (1 : Int) ≤ (M : Int) := by have := H7.out; omega
  have hM7 : (M : Int) ≤ 7 := by have := H7.out; omega
  have hjM : (j : Int) < (M : Int) := by have := H7.out; omega
  have d1 : decide ((M : Int) < 1) = false := by simp; omega
  have d2 : decide ((7 : Int) < (M : Int)) = false := by simp; omega
  have d3 : decide ((j : Int) < 0) = false := by simp
  have d4 : decide ((M : Int) ≤ (j : Int)) = false := by simp; omega
  clear hfit hn12 hno
  go_wp2_with (first
    | (go_at_call 9
       refine (HN.out _ HB1.out).mono ?_
       rintro e w2 ⟨pa, oa, rfl, hpa, hna, hia, hb2⟩
       obtain ⟨⟨b, x⟩, rfl⟩ : ∃ q, oa = some q := Option.isSome_iff_exists.1 (hia.2 HNO.out)
       obtain ⟨rfl, hB⟩ := hpa
       obtain ⟨hx1, hx2, _, hx4, hx5, hx6⟩ := hna b x rfl
       have HBL := Lib.hid hB
       have HB2 := Lib.hid (HB1.out.trans (hb2.mono HB1.out.size))
       have HX := Lib.hid (And.intro hx1 (And.intro hx2 (And.intro hx4 (And.intro hx5 hx6))))
       clear hna hb2 HB1 hia hB hx1 hx2 hx4 hx5 hx6)
    | (at_make
       refine wpL_make rfl _ _ _ rfl (base := w2.heap.size) E_lists M rfl rfl rfl rfl (by omega) (by unfold maxLen; omega) (Nat.le_refl _) ?_
       intro w3 hown3 hg3
       rw [made_h] at hown3
       have HR3 := Lib.hid (own_full hown3 (by have := H7.out; omega)).1
       have HG3 := Lib.hid hg3
       clear hown3 hg3)
    | (at_make
       refine wpL_make rfl _ _ _ rfl (base := w3.heap.size) E_bools M rfl rfl rfl rfl (by omega) (by unfold maxLen; omega) (Nat.le_refl _) ?_
       intro w4 hown4 hg4
       rw [made_v] at hown4
       have HR4 := Lib.hid (own_full hown4 (by have := H7.out; omega)).1
       have HO4 := Lib.hid (bo_new (A0 := A0) (n0 := n0) (c0 := c0) HB2.out HBL.out (Nat.le_trans HBS.out HX.out.2.1) HX.out.1 HX.out.2.2.2.1 HX.out.2.2.2.2 HX.out.2.2.1 H7.out.2.2 HG3.out hg4 HR3.out HR4.out HB2.out.size (Nat.le_trans HB2.out.size HG3.out.size) (by have := (Array.getElem?_eq_some_iff.1 HR3.out).1; omega))
       have HO5 := Lib.hid (HO4.out.put ⟨A0, n0, c0, own⟩ H7.out.2.2 H0.out ⟨HFI.out.2.2.2.1, HFI.out.2.2.1⟩)
       have a0 : w4.cell? ⟨w2.heap.size, j, none⟩ = some (.slice none 0 0) := hav_cell HO4.out.row H7.out.2.2
       have a1 : w4.frozen? ⟨w2.heap.size, j, none⟩ = false := free_row HO4.out.row
       have a2 : (w4.setCell ⟨w2.heap.size, j, none⟩ (.slice A0 n0 c0)).cell? ⟨w3.heap.size, j, none⟩ = some (.bool false) := vot_cell (other_row HO4.out.vrow HO4.out.row HO4.out.ne.symm) H7.out.2.2
       have a3 : (w4.setCell ⟨w2.heap.size, j, none⟩ (.slice A0 n0 c0)).frozen? ⟨w3.heap.size, j, none⟩ = false := free_row (other_row HO4.out.vrow HO4.out.row HO4.out.ne.symm)
       clear hown4 hg4 HO4)
    | fail)
  clear a0 a1 a2 a3
  obtain ⟨ha, hha⟩ : ∃ ha, ha = w2.heap.size := ⟨_, rfl⟩
  obtain ⟨va, hva⟩ : ∃ va, va = w3.heap.size := ⟨_, rfl⟩
  obtain ⟨w5, hw5⟩ : ∃ w5, w5 = (w4.setCell ⟨w2.heap.size, j, none⟩ (.slice A0 n0 c0)).setCell ⟨w3.heap.size, j, none⟩ (.bool true) := ⟨_, rfl⟩
  have HO6 : Hid (Bo w w5 ha va M base b x (upd (fun _ => none) j ⟨A0, n0, c0, own⟩) (upd (fun _ => none) j ⟨A0, n0, c0, own⟩)) := by
    rw [hw5, hha, hva]
    exact HO5
  try rw [← hw5]
  try rw [← hha, ← hva]
  clear hha hva hw5 HO5 HR3 HR4 HG3
  generalize upd (fun _ => none) j (⟨A0, n0, c0, own⟩ : Li) = g0 at *
  clear HX HBL HB2 HN HNO d1 d2 d3 d4 hjM
  go_loopw [17, 18, 19, 20, 21, 22, 23, 70] (fun _ _ _ _ _ _ _ kv wr => ∃ (i : Nat) (x' : Bl) (g : Nat → Option Li), i ≤ n ∧ kv = .int .i64 (i : Int) ∧ Hid (Bo w wr ha va M base b x' g g)) (fun _ _ _ _ _ _ _ kv _ => n - (intOf kv).toNat)
  case atStart => exact ⟨0, x, g0, Nat.zero_le _, rfl, HO6⟩
  case round =>
    clear HO6
    obtain ⟨i, x1, g, hi, rfl, HB⟩ := hrel
    by_cases hlt : i < n
    · have hlen := HO.out
      obtain ⟨v, hv⟩ : ∃ v, l[i]? = some v := ⟨_, List.getElem?_eq_getElem (by omega)⟩
      obtain ⟨bb, o, rfl, hbb, hcc⟩ := HH.out.at_ (by omega)
      have k0 : wr.cell? ⟨bb, o + i * 2, none⟩ = some (.int .i64 v.nd) := (HB.out.bel.cell (p := ⟨bb, o + i * 2, none⟩) hbb).trans (hcc i v hv 0 _ rfl)
      have k1 : wr.cell? ⟨bb, o + i * 2 + 1, none⟩ = some v.l.v := (HB.out.bel.cell (p := ⟨bb, o + i * 2 + 1, none⟩) hbb).trans (by have := hcc i v hv 1 _ rfl; rwa [← Nat.add_assoc] at this)
      have HVE := Lib.hid (show Ents w v.l.A v.l.n v.l.c v.l.es from (HH.out.reads v (List.mem_of_getElem? hv)).2)
      have HFV := Lib.hid (HFI.out.2.2.2.2 v (List.mem_of_getElem? hv))
      have HLT := Lib.hid hlt
      have hii : (i : Int) < (n : Int) := by omega
      clear hcc hv hlt hbb hlen
      obtain ⟨nd, ⟨lA, ln, lc, les⟩⟩ := v
      unfold Li.v at k1
      dsimp only at k0 k1
      obtain ⟨wb, hwb⟩ : ∃ wb, wb = wr.alloc (.cells #[.int .i64 nd, .slice lA ln lc] 32) := ⟨_, rfl⟩
      have HBX : Hid (Bo w wb ha va M base b x1 g g) := by rw [hwb]; exact Lib.hid (HB.out.below ((Below.refl _ _).alloc (Nat.le_refl _) _))
      have HRX : Hid (wb.heap[wr.heap.size]? = some (.cells #[.int .i64 nd, .slice lA ln lc] 32 (0, 0))) := by rw [hwb]; exact Lib.hid (heap_alloc_new wr _)
      go_upto_block 2 with (fail)
      rw [← hwb]
      clear hwb k0 k1
      obtain ⟨p, hp⟩ : ∃ p, p = wr.heap.size := ⟨_, rfl⟩
      rw [← hp] at HRX ⊢
      clear hp
      go_cut [18] (fun u wx => u = .int .i64 (want M g nd) ∧ Hid (Bo w wx ha va M base b x1 (nxt M g ⟨nd, ⟨lA, ln, lc, les⟩⟩) g) ∧ Hid (wx.heap[p]? = some (.cells #[.int .i64 nd, .slice lA ln lc] 32 (0, 0))))
      case first =>
        have b0 : wb.cell? ⟨p, 0, none⟩ = some (.int .i64 nd) := cell_of_row _ p 0 _ _ _ HRX.out
        have b1 : wb.cell? ⟨p, 1, none⟩ = some (.slice lA ln lc) := cell_of_row _ p 1 _ _ _ HRX.out
        by_cases h1 : nd < 0
        · have d1 : decide (nd < 0) = true := by simpa using h1
          have HW := Lib.hid (show want M g nd = 2 ∧ nxt M g ⟨nd, ⟨lA, ln, lc, les⟩⟩ = g from ⟨by unfold want; rw [if_pos (Or.inl h1)], by unfold nxt; rw [if_pos (Or.inl h1)]⟩)
          go_wp2_with (fail)
          go_meet
          case rel => exact ⟨by rw [HW.out.1], by rw [HW.out.2]; exact HBX, HRX⟩
        · have d1 : decide (nd < 0) = false := by simpa using h1
          by_cases h2 : (M : Int) ≤ nd
          · have d2 : decide ((M : Int) ≤ nd) = true := by simpa using h2
            have HW := Lib.hid (show want M g nd = 2 ∧ nxt M g ⟨nd, ⟨lA, ln, lc, les⟩⟩ = g from ⟨by unfold want; rw [if_pos (Or.inr h2)], by unfold nxt; rw [if_pos (Or.inr h2)]⟩)
            go_wp2_with (fail)
            go_meet
            case rel => exact ⟨by rw [HW.out.1], by rw [HW.out.2]; exact HBX, HRX⟩
          · obtain ⟨k, rfl⟩ : ∃ k : Nat, nd = (k : Int) := ⟨nd.toNat, by omega⟩
            have d2 : decide ((M : Int) ≤ (k : Int)) = false := by simpa using h2
            have hkM : (k : Int) < (M : Int) := by omega
            have HKM := Lib.hid (show k < M from by omega)
            have hno : ¬ ((k : Int) < 0 ∨ (M : Int) ≤ (k : Int)) := by omega
            have vk := HBX.out.voted HKM.out
            have HW := Lib.hid (show want M g (k : Int) = (if (g k).isSome then 41 else 0) ∧ nxt M g ⟨(k : Int), ⟨lA, ln, lc, les⟩⟩ = (if (g k).isSome then g else upd g k ⟨lA, ln, lc, les⟩) from ⟨by unfold want; rw [if_neg hno]; rfl, by unfold nxt; rw [if_neg hno]; rfl⟩)
            clear hno h1
            cases hs : (g k).isSome with
            | true =>
              rw [hs] at vk HW
              simp only [if_true] at HW
              clear hs
              go_wp2_with (fail)
              go_meet
              case rel => exact ⟨by rw [HW.out.1], by rw [HW.out.2]; exact HBX, HRX⟩
            | false =>
              rw [hs] at vk HW
              simp only [Bool.false_eq_true, if_false] at HW
              have hk := HBX.out.have_ HKM.out
              have f1 : wb.frozen? ⟨ha, k, none⟩ = false := free_row HBX.out.row
              have f2 : wb.frozen? ⟨va, k, none⟩ = false := free_row HBX.out.vrow
              have np1 : p ≠ ha := ne_row HBX.out.row (hvc_no _ _) b0
              have np2 : p ≠ va := ne_row HBX.out.vrow (vtc_no _ _) b0
              have g1 : (wb.setCell ⟨ha, k, none⟩ (.slice lA ln lc)).drew.cell? ⟨va, k, none⟩ = some (.bool false) := by
                have := vot_cell (other_row (j := k) (u := .slice lA ln lc) HBX.out.vrow HBX.out.row HBX.out.ne.symm) HKM.out
                rw [hs] at this
                exact this
              have g2 : (wb.setCell ⟨ha, k, none⟩ (.slice lA ln lc)).drew.frozen? ⟨va, k, none⟩ = false := free_row (other_row (j := k) (u := .slice lA ln lc) HBX.out.vrow HBX.out.row HBX.out.ne.symm)
              have g3 : (wb.setCell ⟨ha, k, none⟩ (.slice lA ln lc)).drew.cell? ⟨p, 0, none⟩ = some (.int .i64 (k : Int)) := cell_of_row _ p 0 _ _ _ (other_row (j := k) (u := .slice lA ln lc) HRX.out HBX.out.row np1)
              have g4 : (wb.setCell ⟨ha, k, none⟩ (.slice lA ln lc)).drew.cell? ⟨p, 1, none⟩ = some (.slice lA ln lc) := cell_of_row _ p 1 _ _ _ (other_row (j := k) (u := .slice lA ln lc) HRX.out HBX.out.row np1)
              have g5 : (wb.setCell ⟨va, k, none⟩ (.bool true)).drew.cell? ⟨ha, k, none⟩ = some ((g k).getD Li.zero).v := hav_cell (other_row (j := k) (u := .bool true) HBX.out.row HBX.out.vrow HBX.out.ne) HKM.out
              have g6 : (wb.setCell ⟨va, k, none⟩ (.bool true)).drew.frozen? ⟨ha, k, none⟩ = false := free_row (other_row (j := k) (u := .bool true) HBX.out.row HBX.out.vrow HBX.out.ne)
              have g7 : (wb.setCell ⟨va, k, none⟩ (.bool true)).drew.cell? ⟨p, 0, none⟩ = some (.int .i64 (k : Int)) := cell_of_row _ p 0 _ _ _ (other_row (j := k) (u := .bool true) HRX.out HBX.out.vrow np2)
              have g8 : (wb.setCell ⟨va, k, none⟩ (.bool true)).drew.cell? ⟨p, 1, none⟩ = some (.slice lA ln lc) := cell_of_row _ p 1 _ _ _ (other_row (j := k) (u := .bool true) HRX.out HBX.out.vrow np2)
              have HPR := Lib.hid (cell_of_row _ p 0 _ _ _ HRX.out)
              have HR1 := Lib.hid (other_row (j := k) (u := .bool true) (other_row (j := k) (u := .slice lA ln lc) HRX.out HBX.out.row np1) (other_row (j := k) (u := .slice lA ln lc) HBX.out.vrow HBX.out.row HBX.out.ne.symm) np2)
              have HR2 := Lib.hid (other_row (j := k) (u := .slice lA ln lc) (other_row (j := k) (u := .bool true) HRX.out HBX.out.vrow np2) (other_row (j := k) (u := .bool true) HBX.out.row HBX.out.vrow HBX.out.ne) np1)
              have HP := Lib.hid (HBX.out.put ⟨lA, ln, lc, les⟩ HKM.out HVE.out HFV.out)
              have HP2 := Lib.hid (HBX.out.put2 ⟨lA, ln, lc, les⟩ HKM.out HVE.out HFV.out)
              generalize ((g k).getD Li.zero).v = uz at hk g5
              clear hs HPR np1 np2
              go_wp2_with (fail)
              go_region
              all_goals go_wp2_with (fail)
              all_goals go_meet
              all_goals first
                | exact ⟨by rw [HW.out.1], by rw [HW.out.2]; exact Lib.hid (HP.out.below ((Below.refl _ _).drew)), HR1⟩
                | exact ⟨by rw [HW.out.1], by rw [HW.out.2]; exact Lib.hid (HP2.out.below ((Below.refl _ _).drew)), HR2⟩
      case rest =>
        obtain ⟨rfl, HBN, HRN⟩ := hcut
        have r0 : wc.cell? ⟨p, 0, none⟩ = some (.int .i64 nd) := cell_of_row _ p 0 _ _ _ HRN.out
        have r1 : wc.cell? ⟨p, 1, none⟩ = some (.slice lA ln lc) := cell_of_row _ p 1 _ _ _ HRN.out
        have HGR := Lib.hid (bo_grant ⟨nd, ⟨lA, ln, lc, les⟩⟩ HBN.out H7.out.2.1 (HVE.out.below HBN.out.bel) HFV.out.2 (by have := HFV.out.1; have := HVE.out.len; dsimp only at *; omega))
        dsimp only at HGR
        generalize want M g nd = WA at *
        generalize nxt M g ⟨nd, ⟨lA, ln, lc, les⟩⟩ = G at *
        clear HBX HRX HRN HBN HB HVE HFV
        have dW : decide (WA = WA) = true := by simp
        go_wp2_with (first
          | (go_at_call 10
             refine HGR.out.mono ?_
             rintro e w6 ⟨rfl, x2, hbo⟩
             have HB6 := Lib.hid hbo
             clear hbo HGR)
          | fail)
        clear r0 r1 dW
        have HVO := Lib.hid (fun W (hb : Below w6.heap.size w6 W) => voters_any (HB6.out.below hb).at_)
        have HHS := Lib.hid (fun W (q : Nat) (hq : q < M) => (show Calls Try.prog 11 #[.int .u64 (x2.vset : Int), .int .i64 (q : Int)] W fun e w' => e = .returned (.bool (G q).isSome) ∧ W = w' from by
          have := Qu.rhas_any x2.vset (q : Int) W x2.vset_lt
          rwa [HB6.out.has H7.out.2.1 hq] at this))
        unfold TVal at HVO
        go_loopw [19, 20, 21, 110] (fun av _ _ kv wr => ∃ q : Nat, q ≤ M ∧ kv = .int .i64 (q : Int) ∧ Hid (wr.ownsRow w6.heap.size 23 1 av (gls q G).length (Li.lay.flat (gls q G))) ∧ Hid (Below w6.heap.size w6 wr)) (fun _ _ _ kv _ => M - (intOf kv).toNat)
        case atStart => exact ⟨0, Nat.zero_le _, rfl, Lib.hid (World.ownsRow_nil w6 _ _ _), Lib.hid (Below.refl _ _)⟩
        case round =>
          obtain ⟨q, hq, rfl, HOq, HBq⟩ := hrel
          obtain ⟨A5, c5, hv5⟩ := ownsRow_form HOq.out
          subst hv5
          by_cases hlt2 : q < M
          · have c0 := (HB6.out.below HBq.out).voted hlt2
            have c1 := (HB6.out.below HBq.out).have_ hlt2
            have HLQ := Lib.hid hlt2
            have hqi : (q : Int) < (M : Int) := by omega
            have HHQ := Lib.hid (fun W => HHS.out W q hlt2)
            clear hlt2
            cases hs : (G q).isSome with
            | false =>
              have hgn := gls_none hs
              rw [hs] at c0 HHQ
              clear hs c1
              go_wp2_with (first
                | (go_at_call 12; refine (HVO.out _ HBq.out).mono ?_; rintro e w7 ⟨rfl, hb7⟩; have HB7 := Lib.hid hb7; clear hb7)
                | (go_at_call 11; refine (HHQ.out _).mono ?_; rintro e w8 ⟨rfl, rfl⟩)
                | fail)
              go_roundw
              case rel => exact ⟨q + 1, HLQ.out, by go_num, by rw [hgn]; exact Lib.hid (owns_below HOq.out HB7.out), Lib.hid (HBq.out.trans (HB7.out.mono HBq.out.size))⟩
              case measure => have := HLQ.out; simp [intOf]; omega
            | true =>
              have hgs := gls_some hs
              rw [hs] at c0 HHQ
              clear hs
              generalize (G q).getD Li.zero = z at *
              obtain ⟨zA, zn, zc, zes⟩ := z
              unfold Li.v at c1
              dsimp only at c1
              have HGS := Lib.hid hgs
              have hgl := gls_len q G
              have hg7 : (gls q G).length ≤ 7 := by have := H7.out; omega
              have HG7 := Lib.hid hg7
              clear hgs hgl hg7
              go_wp2_with (first
                | (at_builtin
                   refine wpL_app rfl (.tmp 116) (.tmp 121) _ _ rfl E_lists rfl rfl (HOq.out.alloc _) (Src.lit Try.underlying29 #[.slice zA zn zc] rfl (by intro u hu; simp at hu; subst hu; rfl)) (by have := HG7.out; unfold maxLen; omega) (by have := HG7.out; omega) (by have := HBq.out.size; simp; omega) ?_
                   intro v3 w7 hown7 hg7 hat7
                   obtain ⟨A6, c6, rfl⟩ := ownsRow_form hown7
                   have HO7 := Lib.hid hown7
                   have HB7 := Lib.hid ((HBq.out.alloc HBq.out.size (.cells #[.slice zA zn zc] 23)).grown hg7 (by have := HBq.out.size; simp; omega) (fun q e => (HOq.out.lt q e).1))
                   clear hown7 hg7 hat7)
                | (go_at_call 12; refine (HVO.out _ HB7.out).mono ?_; rintro e w8 ⟨rfl, hb8⟩; have HB8 := Lib.hid hb8; clear hb8)
                | (go_at_call 11; refine (HHQ.out _).mono ?_; rintro e w9 ⟨rfl, rfl⟩)
                | fail)
              go_roundw
              case rel =>
                refine ⟨q + 1, HLQ.out, by go_num, ?_, Lib.hid (HB7.out.trans (HB8.out.mono HB7.out.size))⟩
                rw [HGS.out, li_flat, List.length_append]
                exact Lib.hid (owns_below HO7.out HB8.out)
              case measure => have := HLQ.out; simp [intOf]; omega
          · obtain rfl : q = M := by omega
            have HB9 := Lib.hid (HB6.out.below HBq.out)
            have hsl : Slc Li.lay wr A5 (gls q G).length c5 (gls q G) := ⟨ownsRow_rd HOq.out, rfl, fun u hu => by
              obtain ⟨k, hk⟩ := gls_mem hu
              exact (HB9.out.lists k u hk).below HB9.out.bel⟩
            have hfl : (flat (gls q G)).length ≤ 1000 := by
              have h1 := flat_le (Ls := gls q G) (fun u hu => by obtain ⟨k, hk⟩ := gls_mem hu; exact (HB9.out.few k u hk).1)
              have h2 := gls_len q G
              omega
            have HMG := Lib.hid (fun w' (hb : Below wr.heap.size wr w') => (rmerge_any (hsl.below hb) hfl base 9 HFI.out.2.1 (by decide) mm).mono (fun _ _ h => tmg_of h))
            have hmj := HB6.out.maj H7.out.2.1
            have HFB := Lib.hid (HB6.out.flats H7.out.2.1)
            have HWO := Lib.hid (fun w' (hb : Below wr.heap.size wr w') => won_any (HB9.out.below hb).at_)
            have HBc := Lib.hid (Below.refl wr.heap.size wr)
            unfold TVal at HWO
            have hL7 := gls_len q G
            obtain ⟨L, hL⟩ : ∃ L, L = (gls q G).length := ⟨_, rfl⟩
            rw [← hL] at hmj hL7 HMG ⊢
            have hLi : (L : Int) ≤ 7 := by omega
            have wm : IntKind.i64.wrap (2 * (L : Int)) = 2 * (L : Int) := IntWalk.i64_in _ (by omega)
            by_cases hw : q < 2 * L
            · rw [decide_eq_true hw] at hmj
              have HME := Lib.hid (fun w' (hb : Below wr.heap.size wr w') => (show Calls Try.prog 13 #[.pointer (some ⟨b, 0, none⟩), .int .i64 mm] w' (TMg base mm x2.ls w') from by
                have h1 := merge_won (HB9.out.below hb).at_ (by rw [HB9.out.bs]; exact HFI.out.2.1) mm hmj
                rw [HB9.out.bs, HB9.out.tm] at h1
                exact h1.mono (fun _ _ h => tmg_of h)))
              rw [hmj] at HWO
              have g1 : (q : Int) < 2 * (L : Int) := by omega
              have g2 : decide ((q : Int) < 2 * (L : Int)) = true := by simpa using g1
              clear hmj hL7 hL hsl hfl hw HVO HHS HB6 HOq hlt2
              unfold TMg at HME HMG
              go_wp2_with (first
                | (go_at_call 13
                   refine (HME.out _ HBc.out).mono ?_
                   rintro e w7 ⟨A7, H7', c7, rfl, HM7, hb7⟩
                   have HB7 := Lib.hid hb7
                   replace HBc := Lib.hid (HBc.out.trans (hb7.mono HBc.out.size))
                   have HBs := Lib.hid (Below.refl w7.heap.size w7)
                   clear hb7 HME)
                | (go_at_call 14
                   refine (HWO.out _ HBc.out).mono ?_
                   rintro e w8 ⟨rfl, hb8⟩
                   replace HBc := Lib.hid (HBc.out.trans (hb8.mono HBc.out.size))
                   replace HBs := Lib.hid (HBs.out.trans (hb8.mono HBs.out.size))
                   clear hb8 HWO)
                | (go_at_call 16
                   refine (HMG.out _ HBc.out).mono ?_
                   rintro e w9 ⟨A9, H9, c9, rfl, HM9, hb9⟩
                   replace HBc := Lib.hid (HBc.out.trans (hb9.mono HBc.out.size))
                   have HSA := Lib.hid (same_call HFB.out HM7.out HM9.out (HBs.out.trans (hb9.mono HBs.out.size)))
                   clear hb9 HMG HM7 HM9 HBs)
                | (go_at_call 15
                   refine HSA.out.mono ?_
                   rintro e w10 ⟨rfl, hb10⟩
                   replace HBc := Lib.hid (HBc.out.trans (hb10.mono HBc.out.size))
                   clear hb10 HSA)
                | fail)
              go_roundw
              case rel => exact ⟨i + 1, x2, G, HLT.out, by go_num, Lib.hid (HB9.out.below HBc.out)⟩
              case measure => have := HLT.out; simp [intOf]; omega
            · rw [decide_eq_false hw] at hmj
              have HME := Lib.hid (fun w' (hb : Below wr.heap.size wr w') => merge_no (HB9.out.below hb).at_ mm hmj)
              rw [hmj] at HWO
              have g1 : ¬ (q : Int) < 2 * (L : Int) := by omega
              have g2 : decide ((q : Int) < 2 * (L : Int)) = false := by simpa using g1
              clear hmj hL7 hL hsl hfl hw HVO HHS HB6 HOq hlt2 HMG HFB
              unfold TVal at HME
              go_wp2_with (first
                | (go_at_call 13
                   refine (HME.out _ HBc.out).mono ?_
                   rintro e w7 ⟨rfl, hb7⟩
                   replace HBc := Lib.hid (HBc.out.trans (hb7.mono HBc.out.size))
                   clear hb7 HME)
                | (go_at_call 14
                   refine (HWO.out _ HBc.out).mono ?_
                   rintro e w8 ⟨rfl, hb8⟩
                   replace HBc := Lib.hid (HBc.out.trans (hb8.mono HBc.out.size))
                   clear hb8 HWO)
                | fail)
              go_roundw
              case rel => exact ⟨i + 1, x2, G, HLT.out, by go_num, Lib.hid (HB9.out.below HBc.out)⟩
              case measure => have := HLT.out; simp [intOf]; omega
    · obtain rfl : i = n := by omega
      have hrow : wr.heap[b]? = some (.cells #[.int .u64 (x1.nd : Int), .int .u64 ((9 : Nat) : Int), .int .u64 (base : Int), .map (some x1.m)] 46 (0, 0)) := by
        have h1 := HB.out.at_.row
        unfold Bl.cells at h1
        rwa [HB.out.tm, HB.out.bs] at h1
      have HTM := Lib.hid (fun w' (hb : Below wr.heap.size wr w') => term_row (row_below hrow hb))
      have HBA := Lib.hid (fun w' (hb : Below wr.heap.size wr w') => base_row (row_below hrow hb))
      have HBc := Lib.hid (Below.refl wr.heap.size wr)
      have HBW := Lib.hid HB.out.bel
      unfold TVal at HTM HBA
      clear hrow HB
      go_wp2_with (first
        | (go_at_call 17
           refine (HTM.out _ HBc.out).mono ?_
           rintro e w7 ⟨rfl, hb7⟩
           replace HBc := Lib.hid (HBc.out.trans (hb7.mono HBc.out.size))
           clear hb7 HTM)
        | (go_at_call 18
           refine (HBA.out _ HBc.out).mono ?_
           rintro e w7 ⟨rfl, hb7⟩
           replace HBc := Lib.hid (HBc.out.trans (hb7.mono HBc.out.size))
           clear hb7 HBA)
        | (go_at_call 8
           refine (HV.out _).mono ?_
           rintro e w11 ⟨rfl, hb4⟩
           replace HBc := Lib.hid (HBc.out.trans (hb4.mono HBc.out.size))
           clear hb4)
        | fail)
      go_ret
      exact ⟨rfl, HBW.out.trans (HBc.out.mono HBW.out.size)⟩

namespace ballotPlays
open Go.ChangeShapes Go.WideShapes Go.ChangeAt
set_option maxRecDepth 100000 in
theorem lifted (os : Os) (started : os.Started) (H : Type) (enc : TypeId × Value → H) :
    ReturnsInHanded {} Try.checked os 3 .any (Rows.ballotPlaysSpec.pre6 enc Try.prog Try.f3 Rows.ballotPlaysRow.domain false) (Rows.ballotPlaysSpec.post enc Try.prog Try.f3 false true false false) := by
  refine returnsInHanded_of_change (C := Try.checked) own started (by kernel_rfl) Try.func3
    (ChangeSpec.witness6 (enc := enc) (C := Try.checked) false ⟨#[], #[.int .i64 0, .int .i64 0, .int .i64 0, .int .u64 0, .slice none 0 0, .slice none 0 0], []⟩ 8 (by kernel_rfl) (by kernel_rfl) (by kernel_rfl) (by kernel_rfl)) ?_
  intro W base args ds gs before hval0 hW _ _
  have hval : ∀ (j : Nat) t v, Try.f3.params[j]? = some t → args[j]? = some v → Value.okWide Try.prog W .any base t v := hval0
  have hW' := hW
  obtain ⟨p, q, hA0, hV, rfl, hfz, hnd⟩ := hW
  have hA : DataW.TrodAll enc Try.prog W 0 (fun _ => true) true Try.f3.params.toList args.toList ds p := hA0
  rw [Try.params3] at hA hval
  obtain ⟨v0, vs0, d0, ds0, p0, q0, hargs, rfl, rfl, h0, r0⟩ := trodAll_cons hA
  obtain ⟨v1, vs1, d1, ds1, p1, q1, rfl, rfl, rfl, h1, r1⟩ := trodAll_cons r0
  obtain ⟨v2, vs2, d2, ds2, p2, q2, rfl, rfl, rfl, h2, r2⟩ := trodAll_cons r1
  obtain ⟨v3, vs3, d3, ds3, p3, q3, rfl, rfl, rfl, h3, r3⟩ := trodAll_cons r2
  obtain ⟨v4, vs4, d4, ds4, p4, q4, rfl, rfl, rfl, h4, r4⟩ := trodAll_cons r3
  obtain ⟨v5, vs5, d5, ds5, p5, q5, rfl, rfl, rfl, h5, r5⟩ := trodAll_cons r4
  obtain ⟨rfl, rfl, rfl⟩ := trodAll_nil r5
  obtain rfl : args = #[v0, v1, v2, v3, v4, v5] := by cases args; simp_all
  obtain ⟨rfl, rfl⟩ := trodVars_none hV
  have k0 := h0
  have lt0 : ∀ x ∈ p0, x.block < W.heap.size := by obtain ⟨m, hm⟩ := k0; exact DataW.trod_lt m _ _ _ hm
  obtain ⟨x0, rfl, w0⟩ := dec_int Try.underlying3 (hval 0 3 v0 rfl rfl) h0
  have k1 := h1
  have lt1 : ∀ x ∈ p1, x.block < W.heap.size := by obtain ⟨m, hm⟩ := k1; exact DataW.trod_lt m _ _ _ hm
  obtain ⟨x1, rfl, w1⟩ := dec_int Try.underlying3 (hval 1 3 v1 rfl rfl) h1
  have k2 := h2
  have lt2 : ∀ x ∈ p2, x.block < W.heap.size := by obtain ⟨m, hm⟩ := k2; exact DataW.trod_lt m _ _ _ hm
  obtain ⟨x2, rfl, w2⟩ := dec_int Try.underlying3 (hval 2 3 v2 rfl rfl) h2
  have k3 := h3
  have lt3 : ∀ x ∈ p3, x.block < W.heap.size := by obtain ⟨m, hm⟩ := k3; exact DataW.trod_lt m _ _ _ hm
  obtain ⟨x3, rfl, w3⟩ := dec_u64 Try.underlying22 (hval 3 22 v3 rfl rfl) h3
  have k4 := h4
  have lt4 : ∀ x ∈ p4, x.block < W.heap.size := by obtain ⟨m, hm⟩ := k4; exact DataW.trod_lt m _ _ _ hm
  obtain ⟨a4, n4, c4, l4, rfl, w4⟩ := dec_entries Try.underlying23 entryT (hval 4 23 v4 rfl rfl) h4
  have k5 := h5
  have lt5 : ∀ x ∈ p5, x.block < W.heap.size := by obtain ⟨m, hm⟩ := k5; exact DataW.trod_lt m _ _ _ hm
  obtain ⟨a5, n5, c5, l5, rfl, w5⟩ := Vo.dec (hval 5 24 v5 rfl rfl) h5
  clear hA0 hval0
  refine (ballotPlays_walk x0 w0 x1 w1 x2 w2 x3 w3 w4 w5).mono fun e W' ⟨he, bel⟩ => ?_
  subst he
  exact ⟨_, rfl, _, _, _, [], _, [], hW', trodAll_mk1 (shut_bool Try.underlying4 _), (trodAll_cons_mk (Below.trod laidOut (by kernel_rfl) (of_decide_eq_true (by kernel_rfl)) k0 bel lt0) (trodAll_cons_mk (Below.trod laidOut (by kernel_rfl) (of_decide_eq_true (by kernel_rfl)) k1 bel lt1) (trodAll_cons_mk (Below.trod laidOut (by kernel_rfl) (of_decide_eq_true (by kernel_rfl)) k2 bel lt2) (trodAll_cons_mk (Below.trod laidOut (by kernel_rfl) (of_decide_eq_true (by kernel_rfl)) k3 bel lt3) (trodAll_cons_mk (Below.trod laidOut (by kernel_rfl) (of_decide_eq_true (by kernel_rfl)) k4 bel lt4) (trodAll_cons_mk (Below.trod laidOut (by kernel_rfl) (of_decide_eq_true (by kernel_rfl)) k5 bel lt5) trodAll_mk0)))))), rfl, bel.frame _, fun h => by cases h⟩

theorem over : Rows.ballotPlaysRow.holds Try.pinned (OpenSpec.ofChange Rows.ballotPlaysSpec) :=
  OpenClaim.holds_of_wide 3 Try.f3 rfl rfl rfl rfl rfl rfl rfl ⟨rfl, rfl, rfl, rfl, rfl⟩ rfl rfl rfl rfl rfl (by kernel_rfl) Try.func3 (by kernel_rfl)
    (of_decide_eq_true (by kernel_rfl)) (by unfold Func.isWrapper; first | (rw [if_pos (by decide +kernel)]; kernel_rfl) | (rw [if_neg (by decide +kernel)]; exact ⟨rfl, rfl⟩))
    (fun os started H enc _ => lifted os started H enc)
/-- The given statement. -/
theorem proved : Rows.BallotPlaysSaid := over
end ballotPlays

end Go.Proofs.Ytapfggpeodpflaa
