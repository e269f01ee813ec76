/- merge.Best. The reference's Best. -/
import Derived.Test.YtapfggpeodpflaaMbest1M
import Derived.Test.YtapfggpeodpflaaMcopyM
namespace Go.Proofs.Ytapfggpeodpflaa
open Go.RowKit
set_option maxRecDepth 20000

/-- Best's boxes: the index, the lists, what is told, the best so far, and whether there is one. -/
structure BJ (w wr : World) (p2 p3 p4 p6 p7 : Nat) (ix : Nat) (A : Option Addr) (n c : Nat) (o : Option En) : Prop where
  bel : Below w.heap.size w wr
  r2 : wr.heap[p2]? = some (.cells #[.int .u64 (ix : Int)] 22 (0, 0))
  r3 : wr.heap[p3]? = some (.cells #[.slice A n c] 29 (0, 0))
  r4 : ERow wr p4 Ez
  r6 : ERow wr p6 (curE o)
  r7 : wr.heap[p7]? = some (.cells #[.bool o.isSome] 4 (0, 0))
theorem BJ.below {w wr w' : World} {p2 p3 p4 p6 p7 ix : Nat} {A : Option Addr} {n c : Nat} {o : Option En} (h : BJ w wr p2 p3 p4 p6 p7 ix A n c o) (hb : Below wr.heap.size wr w') : BJ w w' p2 p3 p4 p6 p7 ix A n c o :=
  ⟨h.bel.trans (hb.mono h.bel.size), row_below h.r2 hb, row_below h.r3 hb, row_below h.r4 hb, row_below h.r6 hb, row_below h.r7 hb⟩
/-- The boxes' numbers. -/
structure BP (w : World) (p2 p3 p4 p6 p7 : Nat) : Prop where
  h2 : p2 = w.heap.size
  h3 : p3 = w.heap.size + 1
  h4 : p4 = w.heap.size + 2
  h6 : p6 = w.heap.size + 3
  h7 : p7 = w.heap.size + 4
theorem BJ.put {w wr w1 w2 : World} {p2 p3 p4 p6 p7 ix : Nat} {A : Option Addr} {n c : Nat} {o : Option En} {x : En} (h : BJ w wr p2 p3 p4 p6 p7 ix A n c o) (hp : BP w p2 p3 p4 p6 p7)
    (h6 : w1.heap[p6]? = some (.cells x.cells 55 (0, 0))) (hg6 : wr.grownBy w1 (some p6)) (h7 : w2.heap[p7]? = some (.cells #[.bool true] 4 (0, 0))) (hg7 : w1.grownBy w2 (some p7)) : BJ w w2 p2 p3 p4 p6 p7 ix A n c (some x) := by
  obtain ⟨q2, q3, q4, q6, q7⟩ := hp
  have keep : ∀ b o, wr.heap[b]? = some o → b ≠ p6 → b ≠ p7 → w2.heap[b]? = some o := fun b o hb n6 n7 => by
    have hl := (Array.getElem?_eq_some_iff.1 hb).1
    exact (hg7.block b (Nat.lt_of_lt_of_le hl hg6.size) (fun e => n7 (by simpa using e))).trans ((hg6.block b hl (fun e => n6 (by simpa using e))).trans hb)
  have ne67 : p6 ≠ p7 := by omega
  have l6 := (Array.getElem?_eq_some_iff.1 h6).1
  exact ⟨(h.bel.grown hg6 h.bel.size (fun k e => by cases e; omega)).grown hg7 (Nat.le_trans h.bel.size hg6.size) (fun k e => by cases e; omega),
    keep _ _ h.r2 (by omega) (by omega), keep _ _ h.r3 (by omega) (by omega), keep _ _ h.r4 (by omega) (by omega), (hg7.block p6 l6 (fun e => ne67 (by simpa using e))).trans h6, h7⟩
theorem BJ.row7 {w wr w1 : World} {p2 p3 p4 p6 p7 ix : Nat} {A : Option Addr} {n c : Nat} {o : Option En} (h : BJ w wr p2 p3 p4 p6 p7 ix A n c o) (hp : BP w p2 p3 p4 p6 p7) (hg6 : wr.grownBy w1 (some p6)) : w1.heap[p7]? = some (.cells #[.bool o.isSome] 4 (0, 0)) := by
  obtain ⟨q2, q3, q4, q6, q7⟩ := hp
  have ne67 : p7 ≠ p6 := by omega
  exact (hg6.block p7 (Array.getElem?_eq_some_iff.1 h.r7).1 (fun e => ne67 (by simpa using e))).trans h.r7
theorem curE_reads {o : Option En} {w : World} (h : ∀ e, o = some e → e.Reads w) : (curE o).Reads w := by
  cases o with
  | none => exact enNil_reads w
  | some e => exact h e rfl
/-- The best of some lists and a part of the next one. -/
def upBest (Ls : List Li) (ix i j : Nat) (l : Li) : Option En := (l.es.take j).foldl (bstep (vd (flat Ls)) ix) (bestOf (vd (flat Ls)) ix (flat (Ls.take i)))
theorem upBest_mem {Ls : List Li} {ix i j : Nat} {l : Li} {e : En} (hl : Ls[i]? = some l) (h : upBest Ls ix i j l = some e) : e ∈ flat Ls := by
  unfold upBest at h
  rcases fold_mem _ _ _ h with h1 | h1
  · have := bestOf_mem h1
    unfold flat at this ⊢
    obtain ⟨m, hm, he⟩ := List.mem_flatMap.1 this
    exact List.mem_flatMap.2 ⟨m, List.mem_of_mem_take hm, he⟩
  · exact List.mem_flatMap.2 ⟨l, List.mem_of_getElem? hl, List.mem_of_mem_take h1⟩
theorem flat_reads {w : World} {A : Option Addr} {n c : Nat} {Ls : List Li} (h : Slc Li.lay w A n c Ls) : ∀ e ∈ flat Ls, e.Reads w := fun e he => by
  unfold flat at he
  obtain ⟨l, hl, he⟩ := List.mem_flatMap.1 he
  exact (show Ents w l.A l.n l.c l.es from h.reads l hl).reads e he
/-- What Best tells: the best one, but for where its looks lie. -/
def TBest (w : World) (o : Option En) (r : Ending) (w' : World) : Prop := ∃ A c, r = .returned (.tuple #[.agg ((curE o).put A c).cells, .bool o.isSome]) ∧ ((curE o).put A c).Reads w' ∧ (∀ x, A = some x → w.heap.size ≤ x.block) ∧ Below w.heap.size w w'

theorem bboxes (w : World) (ix : Nat) (A : Option Addr) (n c : Nat) : ∃ W p2 p3 p4 p6 p7, W = ((((w.alloc (.cells #[.int .u64 (ix : Int)] 22)).alloc (.cells #[.slice A n c] 29)).alloc (.cells #[.int .u64 0, .int .u64 0, .int .u64 0, .int .i64 0, .int .u64 0, .int .u64 0, .int .u32 0, .int .u32 0, .string ⟨#[]⟩, .slice none 0 0] 55)).alloc (.cells #[.int .u64 0, .int .u64 0, .int .u64 0, .int .i64 0, .int .u64 0, .int .u64 0, .int .u32 0, .int .u32 0, .string ⟨#[]⟩, .slice none 0 0] 55)).alloc (.cells #[.bool false] 4) ∧
    Hid (BP w p2 p3 p4 p6 p7) ∧ Hid (BJ w W p2 p3 p4 p6 p7 ix A n c none) := by
  refine ⟨_, _, _, _, _, _, rfl, Lib.hid ⟨rfl, rfl, rfl, rfl, rfl⟩, Lib.hid ⟨?_, ?_, ?_, ?_, ?_, ?_⟩⟩
  · exact (((((Below.refl _ _).alloc (Nat.le_refl _) _).alloc (by simp) _).alloc (by simp <;> omega) _).alloc (by simp <;> omega) _).alloc (by simp <;> omega) _
  · exact row_old _ (row_old _ (row_old _ (row_old _ (row_here _ _ (by simp)))))
  · exact row_old _ (row_old _ (row_old _ (row_here _ _ (by simp))))
  · exact row_old _ (row_old _ (row_here _ _ (by simp)))
  · exact row_old _ (row_here _ _ (by simp))
  · exact row_here _ _ (by simp)
set_option maxHeartbeats 8000000 in
theorem best_any {w : World} {A : Option Addr} {n c : Nat} {Ls : List Li} (h : Slc Li.lay w A n c Ls) (hf : ∀ e ∈ flat Ls, e.bn ≤ 200) (ix : Nat) (hix : ix < 18446744073709551616) :
    Calls Try.prog 38 #[.int .u64 (ix : Int), .slice A n c] w (TBest w (bst Ls ix)) := by
  have hcap := h.rd.2.1
  have hnc := h.rd.1
  have hnm : (n : Int) ≤ 9223372036854775807 := by unfold maxLen at hcap; omega
  have HH := Lib.hid h
  have HF := Lib.hid hf
  have HX := Lib.hid hix
  clear h hcap hnc hf hix
  go_enter Try.func38, Try.ntmps38
  obtain ⟨W, p2, p3, p4, p6, p7, hW, HP, HJ⟩ := bboxes w ix A n c
  obtain ⟨q2, q3, q4, q6, q7⟩ := HP.out
  go_wp2_with (fail)
  rw [← hW, ← q7, ← q6, ← q4, ← q3, ← q2]
  clear hW q2 q3 q4 q6 q7
  go_loopw [10, 16, 22] (fun _ ir _ wr => ∃ (i : Nat), i ≤ n ∧ ir = .int .i64 (i : Int) ∧ Hid (BJ w wr p2 p3 p4 p6 p7 ix A n c (bestOf (vd (flat Ls)) ix (flat (Ls.take i))))) (fun _ ir _ _ => n - (intOf ir).toNat)
  case atStart => exact ⟨0, Nat.zero_le _, rfl, HJ⟩
  case round =>
    obtain ⟨i, hi, rfl, HB⟩ := hrel
    by_cases hlt : i < n
    · obtain ⟨l0, hl⟩ : ∃ l0, Ls[i]? = some l0 := ⟨_, List.getElem?_eq_getElem (by have := HH.out.len; omega)⟩
      obtain ⟨b, o, hA, hbb, hcc⟩ := HH.out.at_ (by omega)
      subst hA
      have hrd : Ents w l0.A l0.n l0.c l0.es := HH.out.reads l0 (List.mem_of_getElem? hl)
      have k0 : wr.cell? ⟨b, o + i, none⟩ = some (.slice l0.A l0.n l0.c) := (HB.out.bel.cell (p := ⟨b, o + i, none⟩) hbb).trans (by have := hcc i l0 hl 0 (.slice l0.A l0.n l0.c) rfl; rwa [Nat.mul_one, Nat.add_zero] at this)
      have HL := Lib.hid hl
      have HS := Lib.hid (flat_snoc Ls i l0 hl)
      have HE := Lib.hid hrd
      have hlti : (i : Int) < (n : Int) := by omega
      have hin : (i : Int) ≤ 9223372036854775806 := by omega
      have hcl := hrd.rd.2.1
      have hncl := hrd.rd.1
      have hnl : (l0.n : Int) ≤ 9223372036854775807 := by unfold maxLen at hcl; omega
      clear hcc hl hrd hcl hncl
      have HU := Lib.hid (fun j e (h : upBest Ls ix i j l0 = some e) => flat_reads HH.out e (upBest_mem HL.out h))
      have hst : ∀ j e, l0.es[j]? = some e → upBest Ls ix i (j + 1) l0 = if btr (vd (flat Ls)) ix (upBest Ls ix i j l0) e then some e else upBest Ls ix i j l0 := fun j e he => fold_take he
      have HST := Lib.hid hst
      have HEND := Lib.hid (show upBest Ls ix i l0.n l0 = bestOf (vd (flat Ls)) ix (flat (Ls.take (i + 1))) from by
        unfold upBest
        rw [HS.out, bestOf_snoc, List.take_of_length_le (Nat.le_of_eq HE.out.len)])
      clear hst HS HL
      obtain ⟨wo, rfl⟩ : ∃ wo : World, wo = wr := ⟨_, rfl⟩
      go_wp2_with (fail)
      go_loopw [22] (fun jr wr => ∃ (j : Nat), j ≤ l0.n ∧ jr = .int .i64 (j : Int) ∧ Hid (BJ w wr p2 p3 p4 p6 p7 ix (some ⟨b, o, none⟩) n c (upBest Ls ix i j l0))) (fun jr _ => l0.n - (intOf jr).toNat)
      case atStart => exact ⟨0, Nat.zero_le _, rfl, HB⟩
      case round =>
        clear HB k0
        obtain ⟨j, hj, rfl, HB⟩ := hrel
        by_cases hjl : j < l0.n
        · obtain ⟨e0, he⟩ : ∃ e0, l0.es[j]? = some e0 := ⟨_, List.getElem?_eq_getElem (by have := HE.out.len; omega)⟩
          obtain ⟨b1, o1, hA1, hb1b, hc1⟩ := HE.out.rd.2.2.2 (by omega)
          have hce := fun c u (hu : e0.cells[c]? = some u) => (HB.out.bel.cell (p := ⟨b1, o1 + (j * 10 + c), none⟩) hb1b).trans (hc1 _ _ (ens_get l0.es j _ he c u hu))
          have hre := HE.out.reads e0 (List.mem_of_getElem? he)
          have HT := Lib.hid (HST.out j e0 he)
          have HBA := Lib.hid (fun cs : Obj => HB.out.below ((Below.refl wr.heap.size wr).alloc (Nat.le_refl _) cs))
          have HCA := Lib.hid (fun cs : Obj => better_any (HH.out.below (HBA.out cs).bel) e0 (hre.below (HBA.out cs).bel) ix HX.out (upBest Ls ix i j l0) ((curE_reads (HU.out j)).below (HBA.out cs).bel) p2 p3 p6 p7 (HBA.out cs).r2 (HBA.out cs).r3 (HBA.out cs).r6 (HBA.out cs).r7)
          have HNR := Lib.hid (fun cs : Obj => heap_alloc_new wr cs)
          have hltj : (j : Int) < (l0.n : Int) := by omega
          have hinj : (j : Int) ≤ 9223372036854775806 := by omega
          obtain ⟨T, hT⟩ : ∃ T, btr (vd (flat Ls)) ix (upBest Ls ix i j l0) e0 = T := ⟨_, rfl⟩
          rw [hT] at HT HCA
          have HLJ := Lib.hid hjl
          clear hc1 he hre HB hT hjl
          generalize upBest Ls ix i j l0 = O at *
          obtain ⟨ixx, tm, st, kd, cl, rq, fr, ct, da, A1, bn, bc, ls⟩ := e0
          obtain ⟨A0, n0, c0, es0⟩ := l0
          dsimp only at hA1
          subst hA1
          unfold En.cells at hce HCA
          dsimp only at *
          have k0 := hce 0 _ rfl
          have k1 := hce 1 _ rfl
          have k2 := hce 2 _ rfl
          have k3 := hce 3 _ rfl
          have k4 := hce 4 _ rfl
          have k5 := hce 5 _ rfl
          have k6 := hce 6 _ rfl
          have k7 := hce 7 _ rfl
          have k8 := hce 8 _ rfl
          have k9 := hce 9 _ rfl
          try dsimp only at k0 k1 k2 k3 k4 k5 k6 k7 k8 k9
          simp only [← Nat.add_assoc, Nat.add_zero] at k0 k1 k2 k3 k4 k5 k6 k7 k8 k9
          clear hce
          cases T
          · go_wp2_with (first
              | (go_at_call 50; refine (HCA.out _).mono ?_; rintro e w1 ⟨rfl, hb1⟩)
              | fail)
            go_roundw
            case rel => exact ⟨j + 1, by have := HLJ.out; omega, by go_num, Lib.hid (by rw [HT.out]; exact (HBA.out _).below hb1)⟩
            case measure => have := HLJ.out; simp [intOf]; omega
          · go_wp2_with (first
              | (go_at_call 50; refine (HCA.out _).mono ?_; rintro e w1 ⟨rfl, hb1⟩
                 have hrow := row_below (HNR.out (.cells #[.int .u64 (ixx : Int), .int .u64 (tm : Int), .int .u64 (st : Int), .int .i64 kd, .int .u64 (cl : Int), .int .u64 (rq : Int), .int .u32 (fr : Int), .int .u32 (ct : Int), .string (str da), .slice A1 bn bc] 55)) hb1
                 have e0 := cell_of_row w1 _ 0 _ _ _ hrow
                 have e1 := cell_of_row w1 _ 1 _ _ _ hrow
                 have e2 := cell_of_row w1 _ 2 _ _ _ hrow
                 have e3 := cell_of_row w1 _ 3 _ _ _ hrow
                 have e4 := cell_of_row w1 _ 4 _ _ _ hrow
                 have e5 := cell_of_row w1 _ 5 _ _ _ hrow
                 have e6 := cell_of_row w1 _ 6 _ _ _ hrow
                 have e7 := cell_of_row w1 _ 7 _ _ _ hrow
                 have e8 := cell_of_row w1 _ 8 _ _ _ hrow
                 have e9 := cell_of_row w1 _ 9 _ _ _ hrow
                 have HB1 := Lib.hid ((HBA.out _).below hb1)
                 clear hb1 hrow)
              | (refine wpL_estore rfl (.tmp 6) (.tmp 29) rfl (e := ⟨ixx, tm, st, kd, cl, rq, fr, ct, da, A1, bn, bc, ls⟩) (d := curE O) rfl rfl HB1.out.r6 ?_
                 intro W5 h5 hg5 hz5
                 have h7' := HB1.out.row7 HP.out hg5)
              | (refine wpL_ostore rfl _ (.tmp 7) (.const (.bool true)) rfl rfl rfl h7' (by kernel_rfl) rfl ?_
                 intro W6 h6 hg6 hz6)
              | fail)
            go_roundw
            case rel => exact ⟨j + 1, by have := HLJ.out; omega, by go_num, Lib.hid (by rw [HT.out]; exact HB1.out.put HP.out h5.out hg5 h6.out hg6)⟩
            case measure => have := HLJ.out; simp [intOf]; omega
        · obtain rfl : j = l0.n := by omega
          rw [HEND.out] at HB
          go_wp2
          go_roundw
          case rel => exact ⟨i + 1, by omega, by go_num, HB⟩
          case measure => simp [intOf]; omega
    · obtain rfl : i = n := by omega
      rw [flat_all Ls i (by have := HH.out.len; omega)] at HB
      have hbs : bestOf (vd (flat Ls)) ix (flat Ls) = bst Ls ix := rfl
      rw [hbs] at HB
      have HR := Lib.hid (fun e (h : bst Ls ix = some e) => And.intro (flat_reads HH.out e (bestOf_mem h)) (HF.out e (bestOf_mem h)))
      clear hbs
      unfold TBest
      generalize bst Ls ix = O at *
      have c7 := cell_of_row wr p7 0 _ _ _ HB.out.r7
      cases O with
      | none =>
        go_wp2_with (first
          | (refine wpL_ebuild rfl rfl ?_)
          | (refine wpL_estore rfl (.tmp 4) (.tmp 34) rfl (e := Ez) (d := Ez) rfl rfl HB.out.r4 ?_; intro W9 hr9 hg9 hz9)
          | fail)
        have hp4 : w.heap.size ≤ p4 := by have := HP.out.h4; omega
        refine bodyPost_ret (results_row_tmp rfl _ p4 55 _ (0, 0) _ rfl hr9.out Try.underlying55 rfl (by rw [e_size]; rfl)) rfl ⟨none, 0, rfl, enNil_reads _, (fun _ e => by cases e), HB.out.bel.grown hg9 HB.out.bel.size (fun k e => by cases e; exact hp4)⟩
      | some e0 =>
        obtain ⟨hr0, hn0⟩ := HR.out e0 rfl
        have HC := Lib.hid (copy_any e0 wr (hr0.below HB.out.bel) hn0)
        have hp4 : w.heap.size ≤ p4 := by have := HP.out.h4; omega
        have H4 := Lib.hid hp4
        clear hr0 hn0 hp4
        go_wp2_with (first
          | (refine wpL_midk rfl _ (.tmp 6) rfl _ rfl (.agg e0.cells) (e_loads HB.out.r6) ?_; intro K hK; go_simp; refine hK _ _ ?_; clear hK K)
          | (go_at_call 33; refine HC.out.mono ?_; rintro e w1 ⟨A9, c9, rfl, hr9, hA9, hb1⟩
             have HA9 := Lib.hid hA9
             have HB1 := Lib.hid (HB.out.below hb1)
             have HR9 := Lib.hid hr9
             clear hb1 hr9 hA9)
          | (refine wpL_estore rfl (.tmp 4) (.tmp 36) rfl (e := e0.put A9 c9) (d := Ez) rfl rfl HB1.out.r4 ?_; intro W9 hr9 hg9 hz9)
          | fail)
        refine bodyPost_ret (results_row_tmp rfl _ p4 55 _ (0, 0) _ rfl hr9.out Try.underlying55 rfl (by rw [e_size]; rfl)) rfl ⟨A9, c9, rfl, ?_, (fun x e => Nat.le_trans HB.out.bel.size (HA9.out x e)), HB1.out.bel.grown hg9 HB1.out.bel.size (fun k e => by cases e; exact H4.out)⟩
        exact HR9.out.grown hg9 (fun _ x e e4 => by have h1 := HA9.out x e; have h2 := (Array.getElem?_eq_some_iff.1 HB.out.r4).1; cases e4; omega)
end Go.Proofs.Ytapfggpeodpflaa

namespace Go.Proofs.Ytapfggpeodpflaa
open Go.RowKit
set_option maxRecDepth 20000

/-- The best so far, in the row p6; nothing else has turned since the world w1. -/
structure RJ (w1 wr : World) (p6 : Nat) (o : Option En) : Prop where
  gr : w1.grownBy wr (some p6)
  r6 : ERow wr p6 (curE o)
theorem RJ.below {w1 wr w' : World} {p6 : Nat} {o : Option En} (h : RJ w1 wr p6 o) (hb : Below wr.heap.size wr w') : RJ w1 w' p6 o :=
  ⟨grownBy_trans h.gr (grow_of hb) (.inr fun _ e => by cases e), row_below h.r6 hb⟩
theorem RJ.put {w1 wr w' : World} {p6 : Nat} {o : Option En} {x : En} (h : RJ w1 wr p6 o) (hr : w'.heap[p6]? = some (.cells x.cells 55 (0, 0))) (hg : wr.grownBy w' (some p6)) : RJ w1 w' p6 (some x) :=
  ⟨grownBy_trans h.gr hg (.inl rfl), hr⟩
set_option maxHeartbeats 8000000 in
theorem rbest_any {w : World} {A : Option Addr} {n c : Nat} {Ls : List Li} (h : Slc Li.lay w A n c Ls) (hf : (flat Ls).length ≤ 1000) (ix : Nat) (hix : ix < 18446744073709551616) :
    Calls Try.prog 30 #[.int .u64 (ix : Int), .slice A n c] w fun r w' => r = .returned (.tuple #[.agg (curE (bst Ls ix)).cells, .bool (bst Ls ix).isSome]) ∧ Below w.heap.size w w' := by
  obtain ⟨W, hW, hz, r4, r6, hb⟩ := boxes2 w #[.int .u64 0, .int .u64 0, .int .u64 0, .int .i64 0, .int .u64 0, .int .u64 0, .int .u32 0, .int .u32 0, .string ⟨#[]⟩, .slice none 0 0] #[.int .u64 0, .int .u64 0, .int .u64 0, .int .i64 0, .int .u64 0, .int .u64 0, .int .u32 0, .int .u32 0, .string ⟨#[]⟩, .slice none 0 0] 55 55
  have HFL := Lib.hid (flat_any (h.below hb) hf)
  have HV0 := Lib.hid (fun W' (hb' : Below w.heap.size w W') e (he : e ∈ flat Ls) => rvoid_any (h.below hb') hf e ((flat_reads h e he).below hb'))
  have HB0 := Lib.hid hb
  have HR4 := Lib.hid (show ERow W w.heap.size Ez from r4)
  have HR6 := Lib.hid (show ERow W (w.heap.size + 1) Ez from r6)
  have HZ := Lib.hid hz
  have HF := Lib.hid hf
  have hbs : bst Ls ix = bestOf (vd (flat Ls)) ix (flat Ls) := rfl
  rw [hbs]
  clear h hb hz r4 r6 hf hbs
  generalize flat Ls = es at *
  obtain ⟨p4, hp4⟩ : ∃ p4, p4 = w.heap.size := ⟨_, rfl⟩
  obtain ⟨p6, hp6⟩ : ∃ p6, p6 = w.heap.size + 1 := ⟨_, rfl⟩
  have HP := Lib.hid (show p4 ≠ p6 ∧ w.heap.size ≤ p4 ∧ w.heap.size ≤ p6 ∧ p6 < W.heap.size from by have := HZ.out; omega)
  rw [← hp6] at HR6
  rw [← hp4] at HR4
  go_enter Try.func30, Try.ntmps30
  go_wp2_with (first
    | (go_at_call 43; rw [← hW]; refine HFL.out.mono ?_; rintro e w1 ⟨A', m, c', rfl, hfl⟩
       have HE := Lib.hid hfl.ents
       have HLO := Lib.hid hfl.lo
       have HB := Lib.hid (HB0.out.trans (hfl.bel.mono HB0.out.size))
       have HJ := Lib.hid (show RJ w1 w1 p6 none from ⟨World.grownBy.refl _ _, row_below HR6.out hfl.bel⟩)
       have HR := Lib.hid (row_below HR4.out hfl.bel)
       clear hfl HR4 HR6)
    | fail)
  rw [← hp6, ← hp4]
  clear hW HFL
  have hmm : (m : Int) ≤ 1000 := by have := HE.out.len; have := HF.out; omega
  clear hp4 hp6
  go_loopw [7, 9] (fun fv ir wr => ∃ (i : Nat), i ≤ m ∧ ir = .int .i64 (i : Int) ∧ fv = .bool (bestOf (vd es) ix (es.take i)).isSome ∧ Hid (RJ w1 wr p6 (bestOf (vd es) ix (es.take i)))) (fun _ ir _ => m - (intOf ir).toNat)
  case atStart => exact ⟨0, Nat.zero_le _, rfl, rfl, HJ⟩
  case round =>
    clear HJ
    obtain ⟨i, hi, rfl, rfl, HJ⟩ := hrel
    by_cases hlt : i < m
    · obtain ⟨e0, he⟩ : ∃ e0, es[i]? = some e0 := ⟨_, List.getElem?_eq_getElem (by have := HE.out.len; omega)⟩
      obtain ⟨b, o, hA, hbl, hcc⟩ := HE.out.rd.2.2.2 (by omega)
      subst hA
      have hbp : b ≠ p6 := by have h1 := HLO.out _ rfl; have h2 := HP.out.2.2.2; dsimp only at h1; omega
      have hrow : wr.heap[b]? = w1.heap[b]? := HJ.out.gr.block b hbl (fun e => hbp (by simpa using e))
      have hce := fun j u (hu : e0.cells[j]? = some u) => (World.cell?_of_block (a := ⟨b, o + (i * 10 + j), none⟩) hrow).trans (hcc _ _ (ens_get es i _ he j u hu))
      have hbw : b < wr.heap.size := Nat.lt_of_lt_of_le hbl HJ.out.gr.size
      have h6w : p6 < wr.heap.size := (Array.getElem?_eq_some_iff.1 HJ.out.r6).1
      have HBW := Lib.hid (HB.out.grown HJ.out.gr HB.out.size (fun k e => by cases e; exact HP.out.2.2.1))
      have HV := Lib.hid (fun W' (hb' : Below wr.heap.size wr W') => HV0.out W' (HBW.out.trans (hb'.mono HBW.out.size)) e0 (List.mem_of_getElem? he))
      have hst : bestOf (vd es) ix (es.take (i + 1)) = if btr (vd es) ix (bestOf (vd es) ix (es.take i)) e0 then some e0 else bestOf (vd es) ix (es.take i) := fold_take he
      have c6 : wr.cell? ⟨p6, 1, none⟩ = some (.int .u64 ((curE (bestOf (vd es) ix (es.take i))).tm : Int)) := (cell_of_row wr p6 1 _ _ _ HJ.out.r6).trans rfl
      have HS := Lib.hid hst
      have hlti : (i : Int) < (m : Int) := by omega
      clear hcc he hrow hst hbl
      generalize hO : bestOf (vd es) ix (es.take i) = O at *
      clear hO
      generalize hVD : vd es e0 = T at *
      have HVD := Lib.hid hVD
      clear hVD
      have hbt : btr (vd es) ix O e0 = (decide (e0.ix = ix) && ((!O.isSome || decide ((curE O).tm < e0.tm)) && !T)) := by unfold btr curE; rw [HVD.out]; cases O <;> simp
      rw [hbt] at HS
      clear hbt
      obtain ⟨ixx, tm, st, kd, cl, rq, fr, ct, da, A1, bn, bc, ls⟩ := e0
      unfold En.cells at hce HV
      dsimp only at *
      have k0 := hce 0 _ rfl
      have k1 := hce 1 _ rfl
      have k2 := hce 2 _ rfl
      have k3 := hce 3 _ rfl
      have k4 := hce 4 _ rfl
      have k5 := hce 5 _ rfl
      have k6 := hce 6 _ rfl
      have k7 := hce 7 _ rfl
      have k8 := hce 8 _ rfl
      have k9 := hce 9 _ rfl
      try dsimp only at k0 k1 k2 k3 k4 k5 k6 k7 k8 k9
      simp only [← Nat.add_assoc, Nat.add_zero] at k0 k1 k2 k3 k4 k5 k6 k7 k8 k9
      clear hce
      by_cases hi0 : ixx = ix
      · subst hi0
        cases T
        · cases O with
          | none =>
            have HT : Hid (bestOf (vd es) ixx (es.take (i + 1)) = some ⟨ixx, tm, st, kd, cl, rq, fr, ct, da, A1, bn, bc, ls⟩) := Lib.hid (by rw [HS.out]; simp)
            clear HS
            simp only [Option.isSome_none]
            go_wp2_with (fail)
            refine wp_low wr.heap.size [([0, 1, 2, 3, 4, 5, 6, 7, 8, 9, 10, 11, 12], 13)] [14, 15, 16, 17, 18, 19, 20, 21, 22, 23, 24, 25, 26, 27, 28, 29] (by kernel_rfl) (by kernel_rfl) (fun d _ _ _ _ h => by cases d <;> exact h) (Nat.le_refl _) fun wd hbd => ?_
            intro q hq
            have d0 := fun z => kept (hq z) k0 hbw
            have d1 := fun z => kept (hq z) k1 hbw
            have d2 := fun z => kept (hq z) k2 hbw
            have d3 := fun z => kept (hq z) k3 hbw
            have d4 := fun z => kept (hq z) k4 hbw
            have d5 := fun z => kept (hq z) k5 hbw
            have d6 := fun z => kept (hq z) k6 hbw
            have d7 := fun z => kept (hq z) k7 hbw
            have d8 := fun z => kept (hq z) k8 hbw
            have d9 := fun z => kept (hq z) k9 hbw
            have d10 := fun z => kept (hq z) c6 h6w
            simp only [pickI, Option.toList_some, List.cons_append, List.nil_append, List.getElem?_toArray, List.getElem?_cons_succ, List.getElem?_cons_zero]
            try go_frame
            go_big_quiet_step (fail)
            go_big_quiet_step (fail)
            go_big_quiet_step (fail)
            go_big_quiet_step (fail)
            go_big_quiet_step (fail)
            go_big_quiet_step (fail)
            go_big_quiet_step (fail)
            go_big_quiet_step (fail)
            go_big_quiet_step (fail)
            go_big_quiet_step (fail)
            go_big_quiet_step (fail)
            go_big_quiet_step (fail)
            go_big_quiet_step (fail)
            refine wpQuiet_nil ?_
            clear hq q d0 d1 d2 d3 d4 d5 d6 d7 d8 d9 d10
            refine seg_op (by simp only [List.getElem?_toArray, List.getElem?_cons_succ, List.getElem?_cons_zero]; rfl) fun K hK => ?_
            go_simp
            refine (HV.out _ hbd).mono ?_
            rintro e v0 ⟨rfl, bv0⟩
            have zv0 := hbd.trans (bv0.mono hbd.size)
            refine hK.out _ _ (seg_keep zv0 ?_)
            clear hK K
            intro q hq
            have d0 := fun z => kept (hq z) k0 hbw
            have d1 := fun z => kept (hq z) k1 hbw
            have d2 := fun z => kept (hq z) k2 hbw
            have d3 := fun z => kept (hq z) k3 hbw
            have d4 := fun z => kept (hq z) k4 hbw
            have d5 := fun z => kept (hq z) k5 hbw
            have d6 := fun z => kept (hq z) k6 hbw
            have d7 := fun z => kept (hq z) k7 hbw
            have d8 := fun z => kept (hq z) k8 hbw
            have d9 := fun z => kept (hq z) k9 hbw
            have d10 := fun z => kept (hq z) c6 h6w
            simp only [pickI, Option.toList_some, List.cons_append, List.nil_append, List.getElem?_toArray, List.getElem?_cons_succ, List.getElem?_cons_zero]
            try go_frame
            go_big_quiet_step (fail)
            go_big_quiet_step (fail)
            go_big_quiet_step (fail)
            go_big_quiet_step (fail)
            go_big_quiet_step (fail)
            go_big_quiet_step (fail)
            go_big_quiet_step (fail)
            go_big_quiet_step (fail)
            go_big_quiet_step (fail)
            go_big_quiet_step (fail)
            go_big_quiet_step (fail)
            go_big_quiet_step (fail)
            go_big_quiet_step (fail)
            go_big_quiet_step (fail)
            go_big_quiet_step (fail)
            go_big_quiet_step (fail)
            refine wpQuiet_nil ?_
            clear hq q d0 d1 d2 d3 d4 d5 d6 d7 d8 d9 d10
            have k0 := kept zv0 k0 hbw
            have k1 := kept zv0 k1 hbw
            have k2 := kept zv0 k2 hbw
            have k3 := kept zv0 k3 hbw
            have k4 := kept zv0 k4 hbw
            have k5 := kept zv0 k5 hbw
            have k6 := kept zv0 k6 hbw
            have k7 := kept zv0 k7 hbw
            have k8 := kept zv0 k8 hbw
            have k9 := kept zv0 k9 hbw
            go_wp2_with (first
              | (refine wpL_estore rfl (.tmp 6) (.tmp 51) rfl (e := ⟨ixx, tm, st, kd, cl, rq, fr, ct, da, A1, bn, bc, ls⟩) (d := curE none) rfl rfl (RJ.below HJ.out zv0).r6 ?_; intro W9 hr9 hg9 hz9)
              | fail)
            go_roundw
            case rel => exact ⟨i + 1, by omega, by go_num, by rw [HT.out]; rfl, Lib.hid (by rw [HT.out]; exact (RJ.below HJ.out zv0).put hr9.out hg9)⟩
            case measure => simp [intOf]; omega
          | some e1 =>
            have HS' : Hid (bestOf (vd es) ixx (es.take (i + 1)) = if (decide (ixx = ixx) && ((!(some e1).isSome || decide (e1.tm < tm)) && !false)) = true then some ⟨ixx, tm, st, kd, cl, rq, fr, ct, da, A1, bn, bc, ls⟩ else some e1) := HS
            clear HS
            have HS := HS'
            clear HS'
            have c6' : wr.cell? ⟨p6, 1, none⟩ = some (.int .u64 (e1.tm : Int)) := c6
            clear c6
            have c6 := c6'
            clear c6'
            simp only [Option.isSome_some]
            by_cases htm : e1.tm < tm
            · have HT : Hid (bestOf (vd es) ixx (es.take (i + 1)) = some ⟨ixx, tm, st, kd, cl, rq, fr, ct, da, A1, bn, bc, ls⟩) := Lib.hid (by rw [HS.out]; simp [htm])
              clear HS
              generalize htt : e1.tm = t1 at *
              clear htt
              go_wp2_with (fail)
              refine wp_low wr.heap.size [([0, 1, 2, 3, 4, 5, 6, 7, 8, 9, 10, 11, 12], 13)] [14, 15, 16, 17, 18, 19, 20, 21, 22, 23, 24, 25, 26, 27, 28, 29] (by kernel_rfl) (by kernel_rfl) (fun d _ _ _ _ h => by cases d <;> exact h) (Nat.le_refl _) fun wd hbd => ?_
              intro q hq
              have d0 := fun z => kept (hq z) k0 hbw
              have d1 := fun z => kept (hq z) k1 hbw
              have d2 := fun z => kept (hq z) k2 hbw
              have d3 := fun z => kept (hq z) k3 hbw
              have d4 := fun z => kept (hq z) k4 hbw
              have d5 := fun z => kept (hq z) k5 hbw
              have d6 := fun z => kept (hq z) k6 hbw
              have d7 := fun z => kept (hq z) k7 hbw
              have d8 := fun z => kept (hq z) k8 hbw
              have d9 := fun z => kept (hq z) k9 hbw
              have d10 := fun z => kept (hq z) c6 h6w
              simp only [pickI, Option.toList_some, List.cons_append, List.nil_append, List.getElem?_toArray, List.getElem?_cons_succ, List.getElem?_cons_zero]
              try go_frame
              go_big_quiet_step (fail)
              go_big_quiet_step (fail)
              go_big_quiet_step (fail)
              go_big_quiet_step (fail)
              go_big_quiet_step (fail)
              go_big_quiet_step (fail)
              go_big_quiet_step (fail)
              go_big_quiet_step (fail)
              go_big_quiet_step (fail)
              go_big_quiet_step (fail)
              go_big_quiet_step (fail)
              go_big_quiet_step (fail)
              go_big_quiet_step (fail)
              refine wpQuiet_nil ?_
              clear hq q d0 d1 d2 d3 d4 d5 d6 d7 d8 d9 d10
              refine seg_op (by simp only [List.getElem?_toArray, List.getElem?_cons_succ, List.getElem?_cons_zero]; rfl) fun K hK => ?_
              go_simp
              refine (HV.out _ hbd).mono ?_
              rintro e v0 ⟨rfl, bv0⟩
              have zv0 := hbd.trans (bv0.mono hbd.size)
              refine hK.out _ _ (seg_keep zv0 ?_)
              clear hK K
              intro q hq
              have d0 := fun z => kept (hq z) k0 hbw
              have d1 := fun z => kept (hq z) k1 hbw
              have d2 := fun z => kept (hq z) k2 hbw
              have d3 := fun z => kept (hq z) k3 hbw
              have d4 := fun z => kept (hq z) k4 hbw
              have d5 := fun z => kept (hq z) k5 hbw
              have d6 := fun z => kept (hq z) k6 hbw
              have d7 := fun z => kept (hq z) k7 hbw
              have d8 := fun z => kept (hq z) k8 hbw
              have d9 := fun z => kept (hq z) k9 hbw
              have d10 := fun z => kept (hq z) c6 h6w
              simp only [pickI, Option.toList_some, List.cons_append, List.nil_append, List.getElem?_toArray, List.getElem?_cons_succ, List.getElem?_cons_zero]
              try go_frame
              go_big_quiet_step (fail)
              go_big_quiet_step (fail)
              go_big_quiet_step (fail)
              go_big_quiet_step (fail)
              go_big_quiet_step (fail)
              go_big_quiet_step (fail)
              go_big_quiet_step (fail)
              go_big_quiet_step (fail)
              go_big_quiet_step (fail)
              go_big_quiet_step (fail)
              go_big_quiet_step (fail)
              go_big_quiet_step (fail)
              go_big_quiet_step (fail)
              go_big_quiet_step (fail)
              go_big_quiet_step (fail)
              go_big_quiet_step (fail)
              refine wpQuiet_nil ?_
              clear hq q d0 d1 d2 d3 d4 d5 d6 d7 d8 d9 d10
              have k0 := kept zv0 k0 hbw
              have k1 := kept zv0 k1 hbw
              have k2 := kept zv0 k2 hbw
              have k3 := kept zv0 k3 hbw
              have k4 := kept zv0 k4 hbw
              have k5 := kept zv0 k5 hbw
              have k6 := kept zv0 k6 hbw
              have k7 := kept zv0 k7 hbw
              have k8 := kept zv0 k8 hbw
              have k9 := kept zv0 k9 hbw
              go_wp2_with (first
                | (refine wpL_estore rfl (.tmp 6) (.tmp 51) rfl (e := ⟨ixx, tm, st, kd, cl, rq, fr, ct, da, A1, bn, bc, ls⟩) (d := curE (some e1)) rfl rfl (RJ.below HJ.out zv0).r6 ?_; intro W9 hr9 hg9 hz9)
                | fail)
              go_roundw
              case rel => exact ⟨i + 1, by omega, by go_num, by rw [HT.out]; rfl, Lib.hid (by rw [HT.out]; exact (RJ.below HJ.out zv0).put hr9.out hg9)⟩
              case measure => simp [intOf]; omega
            · have HT : Hid (bestOf (vd es) ixx (es.take (i + 1)) = some e1) := Lib.hid (by rw [HS.out]; simp [htm])
              clear HS
              generalize htt : e1.tm = t1 at *
              clear htt
              go_wp2_with (fail)
              refine wp_low wr.heap.size [([0, 1, 2, 3, 4, 5, 6, 7, 8, 9, 10, 11, 12], 13)] [14, 15, 16, 17, 18, 19, 20, 21, 22, 23, 24, 25, 26, 27, 28, 29] (by kernel_rfl) (by kernel_rfl) (fun d _ _ _ _ h => by cases d <;> exact h) (Nat.le_refl _) fun wd hbd => ?_
              intro q hq
              have d0 := fun z => kept (hq z) k0 hbw
              have d1 := fun z => kept (hq z) k1 hbw
              have d2 := fun z => kept (hq z) k2 hbw
              have d3 := fun z => kept (hq z) k3 hbw
              have d4 := fun z => kept (hq z) k4 hbw
              have d5 := fun z => kept (hq z) k5 hbw
              have d6 := fun z => kept (hq z) k6 hbw
              have d7 := fun z => kept (hq z) k7 hbw
              have d8 := fun z => kept (hq z) k8 hbw
              have d9 := fun z => kept (hq z) k9 hbw
              have d10 := fun z => kept (hq z) c6 h6w
              simp only [pickI, Option.toList_some, List.cons_append, List.nil_append, List.getElem?_toArray, List.getElem?_cons_succ, List.getElem?_cons_zero]
              try go_frame
              go_big_quiet_step (fail)
              go_big_quiet_step (fail)
              go_big_quiet_step (fail)
              go_big_quiet_step (fail)
              go_big_quiet_step (fail)
              go_big_quiet_step (fail)
              go_big_quiet_step (fail)
              go_big_quiet_step (fail)
              go_big_quiet_step (fail)
              go_big_quiet_step (fail)
              go_big_quiet_step (fail)
              go_big_quiet_step (fail)
              go_big_quiet_step (fail)
              refine wpQuiet_nil ?_
              clear hq q d0 d1 d2 d3 d4 d5 d6 d7 d8 d9 d10
              refine seg_op (by simp only [List.getElem?_toArray, List.getElem?_cons_succ, List.getElem?_cons_zero]; rfl) fun K hK => ?_
              go_simp
              refine (HV.out _ hbd).mono ?_
              rintro e v0 ⟨rfl, bv0⟩
              have zv0 := hbd.trans (bv0.mono hbd.size)
              refine hK.out _ _ (seg_keep zv0 ?_)
              clear hK K
              intro q hq
              have d0 := fun z => kept (hq z) k0 hbw
              have d1 := fun z => kept (hq z) k1 hbw
              have d2 := fun z => kept (hq z) k2 hbw
              have d3 := fun z => kept (hq z) k3 hbw
              have d4 := fun z => kept (hq z) k4 hbw
              have d5 := fun z => kept (hq z) k5 hbw
              have d6 := fun z => kept (hq z) k6 hbw
              have d7 := fun z => kept (hq z) k7 hbw
              have d8 := fun z => kept (hq z) k8 hbw
              have d9 := fun z => kept (hq z) k9 hbw
              have d10 := fun z => kept (hq z) c6 h6w
              simp only [pickI, Option.toList_some, List.cons_append, List.nil_append, List.getElem?_toArray, List.getElem?_cons_succ, List.getElem?_cons_zero]
              try go_frame
              go_big_quiet_step (fail)
              go_big_quiet_step (fail)
              go_big_quiet_step (fail)
              go_big_quiet_step (fail)
              go_big_quiet_step (fail)
              go_big_quiet_step (fail)
              go_big_quiet_step (fail)
              go_big_quiet_step (fail)
              go_big_quiet_step (fail)
              go_big_quiet_step (fail)
              go_big_quiet_step (fail)
              go_big_quiet_step (fail)
              go_big_quiet_step (fail)
              go_big_quiet_step (fail)
              go_big_quiet_step (fail)
              go_big_quiet_step (fail)
              refine wpQuiet_nil ?_
              clear hq q d0 d1 d2 d3 d4 d5 d6 d7 d8 d9 d10
              go_wp2
              go_roundw
              case rel => exact ⟨i + 1, by omega, by go_num, by rw [HT.out] <;> rfl, Lib.hid (by rw [HT.out]; exact RJ.below HJ.out zv0)⟩
              case measure => simp [intOf]; omega
        · have HT : Hid (bestOf (vd es) ixx (es.take (i + 1)) = O) := Lib.hid (by rw [HS.out]; simp)
          go_wp2_with (fail)
          refine wp_low wr.heap.size [([0, 1, 2, 3, 4, 5, 6, 7, 8, 9, 10, 11, 12], 13)] [14, 15, 16, 17, 18, 19, 20, 21, 22, 23, 24, 25, 26, 27, 28, 29] (by kernel_rfl) (by kernel_rfl) (fun d _ _ _ _ h => by cases d <;> exact h) (Nat.le_refl _) fun wd hbd => ?_
          intro q hq
          have d0 := fun z => kept (hq z) k0 hbw
          have d1 := fun z => kept (hq z) k1 hbw
          have d2 := fun z => kept (hq z) k2 hbw
          have d3 := fun z => kept (hq z) k3 hbw
          have d4 := fun z => kept (hq z) k4 hbw
          have d5 := fun z => kept (hq z) k5 hbw
          have d6 := fun z => kept (hq z) k6 hbw
          have d7 := fun z => kept (hq z) k7 hbw
          have d8 := fun z => kept (hq z) k8 hbw
          have d9 := fun z => kept (hq z) k9 hbw
          have d10 := fun z => kept (hq z) c6 h6w
          simp only [pickI, Option.toList_some, List.cons_append, List.nil_append, List.getElem?_toArray, List.getElem?_cons_succ, List.getElem?_cons_zero]
          try go_frame
          go_big_quiet_step (fail)
          go_big_quiet_step (fail)
          go_big_quiet_step (fail)
          go_big_quiet_step (fail)
          go_big_quiet_step (fail)
          go_big_quiet_step (fail)
          go_big_quiet_step (fail)
          go_big_quiet_step (fail)
          go_big_quiet_step (fail)
          go_big_quiet_step (fail)
          go_big_quiet_step (fail)
          go_big_quiet_step (fail)
          go_big_quiet_step (fail)
          refine wpQuiet_nil ?_
          clear hq q d0 d1 d2 d3 d4 d5 d6 d7 d8 d9 d10
          refine seg_op (by simp only [List.getElem?_toArray, List.getElem?_cons_succ, List.getElem?_cons_zero]; rfl) fun K hK => ?_
          go_simp
          refine (HV.out _ hbd).mono ?_
          rintro e v0 ⟨rfl, bv0⟩
          have zv0 := hbd.trans (bv0.mono hbd.size)
          refine hK.out _ _ (seg_keep zv0 ?_)
          clear hK K
          intro q hq
          have d0 := fun z => kept (hq z) k0 hbw
          have d1 := fun z => kept (hq z) k1 hbw
          have d2 := fun z => kept (hq z) k2 hbw
          have d3 := fun z => kept (hq z) k3 hbw
          have d4 := fun z => kept (hq z) k4 hbw
          have d5 := fun z => kept (hq z) k5 hbw
          have d6 := fun z => kept (hq z) k6 hbw
          have d7 := fun z => kept (hq z) k7 hbw
          have d8 := fun z => kept (hq z) k8 hbw
          have d9 := fun z => kept (hq z) k9 hbw
          have d10 := fun z => kept (hq z) c6 h6w
          simp only [pickI, Option.toList_some, List.cons_append, List.nil_append, List.getElem?_toArray, List.getElem?_cons_succ, List.getElem?_cons_zero]
          try go_frame
          go_big_quiet_step (fail)
          go_big_quiet_step (fail)
          go_big_quiet_step (fail)
          go_big_quiet_step (fail)
          go_big_quiet_step (fail)
          go_big_quiet_step (fail)
          go_big_quiet_step (fail)
          go_big_quiet_step (fail)
          go_big_quiet_step (fail)
          go_big_quiet_step (fail)
          go_big_quiet_step (fail)
          go_big_quiet_step (fail)
          go_big_quiet_step (fail)
          go_big_quiet_step (fail)
          go_big_quiet_step (fail)
          go_big_quiet_step (fail)
          refine wpQuiet_nil ?_
          clear hq q d0 d1 d2 d3 d4 d5 d6 d7 d8 d9 d10
          go_wp2
          go_roundw
          case rel => exact ⟨i + 1, by omega, by go_num, by rw [HT.out] <;> rfl, Lib.hid (by rw [HT.out]; exact RJ.below HJ.out zv0)⟩
          case measure => simp [intOf]; omega
      · have HT : Hid (bestOf (vd es) ix (es.take (i + 1)) = O) := Lib.hid (by rw [HS.out]; simp [hi0])
        have q : ((ixx : Int) == (ix : Int)) = false := by simp; omega
        go_wp2_with (fail)
        refine wp_low wr.heap.size [([0, 1, 2, 3, 4, 5, 6, 7, 8, 9, 10, 11, 12], 13)] [14, 15, 16, 17, 18, 19, 20, 21, 22, 23, 24, 25, 26, 27, 28, 29] (by kernel_rfl) (by kernel_rfl) (fun d _ _ _ _ h => by cases d <;> exact h) (Nat.le_refl _) fun wd hbd => ?_
        intro q hq
        have d0 := fun z => kept (hq z) k0 hbw
        have d1 := fun z => kept (hq z) k1 hbw
        have d2 := fun z => kept (hq z) k2 hbw
        have d3 := fun z => kept (hq z) k3 hbw
        have d4 := fun z => kept (hq z) k4 hbw
        have d5 := fun z => kept (hq z) k5 hbw
        have d6 := fun z => kept (hq z) k6 hbw
        have d7 := fun z => kept (hq z) k7 hbw
        have d8 := fun z => kept (hq z) k8 hbw
        have d9 := fun z => kept (hq z) k9 hbw
        have d10 := fun z => kept (hq z) c6 h6w
        simp only [pickI, Option.toList_some, List.cons_append, List.nil_append, List.getElem?_toArray, List.getElem?_cons_succ, List.getElem?_cons_zero]
        try go_frame
        go_big_quiet_step (fail)
        go_big_quiet_step (fail)
        go_big_quiet_step (fail)
        go_big_quiet_step (fail)
        go_big_quiet_step (fail)
        go_big_quiet_step (fail)
        go_big_quiet_step (fail)
        go_big_quiet_step (fail)
        go_big_quiet_step (fail)
        go_big_quiet_step (fail)
        go_big_quiet_step (fail)
        go_big_quiet_step (fail)
        go_big_quiet_step (fail)
        refine wpQuiet_nil ?_
        clear hq q d0 d1 d2 d3 d4 d5 d6 d7 d8 d9 d10
        refine seg_op (by simp only [List.getElem?_toArray, List.getElem?_cons_succ, List.getElem?_cons_zero]; rfl) fun K hK => ?_
        go_simp
        refine hK.out _ _ (seg_keep hbd ?_)
        clear hK K
        intro q hq
        have d0 := fun z => kept (hq z) k0 hbw
        have d1 := fun z => kept (hq z) k1 hbw
        have d2 := fun z => kept (hq z) k2 hbw
        have d3 := fun z => kept (hq z) k3 hbw
        have d4 := fun z => kept (hq z) k4 hbw
        have d5 := fun z => kept (hq z) k5 hbw
        have d6 := fun z => kept (hq z) k6 hbw
        have d7 := fun z => kept (hq z) k7 hbw
        have d8 := fun z => kept (hq z) k8 hbw
        have d9 := fun z => kept (hq z) k9 hbw
        have d10 := fun z => kept (hq z) c6 h6w
        simp only [pickI, Option.toList_some, List.cons_append, List.nil_append, List.getElem?_toArray, List.getElem?_cons_succ, List.getElem?_cons_zero]
        try go_frame
        go_big_quiet_step (fail)
        go_big_quiet_step (fail)
        go_big_quiet_step (fail)
        go_big_quiet_step (fail)
        go_big_quiet_step (fail)
        go_big_quiet_step (fail)
        go_big_quiet_step (fail)
        go_big_quiet_step (fail)
        go_big_quiet_step (fail)
        go_big_quiet_step (fail)
        go_big_quiet_step (fail)
        go_big_quiet_step (fail)
        go_big_quiet_step (fail)
        go_big_quiet_step (fail)
        go_big_quiet_step (fail)
        go_big_quiet_step (fail)
        refine wpQuiet_nil ?_
        clear hq q d0 d1 d2 d3 d4 d5 d6 d7 d8 d9 d10
        go_wp2
        go_roundw
        case rel => exact ⟨i + 1, by omega, by go_num, by rw [HT.out] <;> rfl, Lib.hid (by rw [HT.out]; exact RJ.below HJ.out hbd)⟩
        case measure => simp [intOf]; omega
    · obtain rfl : i = m := by omega
      rw [List.take_of_length_le (by have := HE.out.len; omega)] at HJ ⊢
      have hr4 := (HJ.out.gr.block p4 (Array.getElem?_eq_some_iff.1 HR.out).1 (fun e => HP.out.1 (by simpa using e))).trans HR.out
      have HR4 := Lib.hid hr4
      have HBW := Lib.hid (HB.out.grown HJ.out.gr HB.out.size (fun k e => by cases e; exact HP.out.2.2.1))
      clear hr4
      generalize hO2 : bestOf (vd es) ix es = O at *
      have HO2 := Lib.hid hO2
      clear hO2
      go_wp2_with (first
        | (refine wpL_midk rfl _ (.tmp 6) rfl _ rfl (.agg (curE O).cells) (e_loads HJ.out.r6) ?_; intro K hK; go_simp; refine hK _ _ ?_; clear hK K)
        | (refine wpL_estore rfl (.tmp 4) (.tmp 52) rfl (e := curE O) (d := Ez) rfl rfl HR4.out ?_; intro W9 hr9 hg9 hz9)
        | fail)
      refine bodyPost_ret (results_row_tmp rfl _ p4 55 _ (0, 0) _ rfl hr9.out Try.underlying55 rfl (by rw [e_size]; rfl)) rfl ⟨by rw [HO2.out]; rfl, HBW.out.grown hg9 HBW.out.size (fun k e => by cases e; exact HP.out.2.1)⟩
end Go.Proofs.Ytapfggpeodpflaa
