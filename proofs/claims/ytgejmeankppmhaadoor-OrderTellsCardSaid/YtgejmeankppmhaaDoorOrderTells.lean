/- Whether an entry may be done, what may be done of any entries, one behind the other, and what one does to an image, is the document's: for all inputs. -/
import Derived.Test.YtgejmeankppmhaaDoorOlivesM
import Derived.Test.YtgejmeankppmhaaDoorMintsM
import Derived.Test.YtgejmeankppmhaaDoorOmapM
import Derived.Test.YtgejmeankppmhaaDoorIgrM
import Derived.Test.YtgejmeankppmhaaDoorDectM
import Derived.Test.YtgejmeankppmhaaDoorOmkM
import Derived.Test.YtgejmeankppmhaaDoorCards
import Derived.Test.YtgejmeankppmhaaDoorTie
import Derived.Test.YtgejmeankppmhaaDoorDecimM
namespace Go.Proofs.YtgejmeankppmhaaDoor
open Go.RowKit
open Bh (En Ents ens ens_get ecell may_any rmay_any light22 near_any Fit22 LAns dec_entries entryT)
set_option maxRecDepth 20000

/-- The law's first boxes: what may be done, what is done, the image. -/
structure OQ (w wr : World) (La Ba L B : Nat) (i : Im) (p5 p6 p7 : Nat) : Prop where
  bel : Below w.heap.size w wr
  r5 : wr.heap[p5]? = some (.cells #[.int .u64 (La : Int), .int .u64 (Ba : Int)] 25 (0, 0))
  r6 : wr.heap[p6]? = some (.cells #[.int .u64 (L : Int), .int .u64 (B : Int)] 25 (0, 0))
  r7 : wr.heap[p7]? = some (.cells (icells i).toArray 32 (0, 0))
structure OR (w wr : World) (La Ba L B : Nat) (i : Im) (p5 p6 p7 p9 p10 : Nat) : Prop where
  q : OQ w wr La Ba L B i p5 p6 p7
  r9 : wr.heap[p9]? = some (.cells #[.int .u64 (La : Int), .int .u64 (Ba : Int)] 37 (0, 0))
  r10 : wr.heap[p10]? = some (.cells #[.int .u64 (L : Int), .int .u64 (B : Int)] 37 (0, 0))
theorem two_below (w : World) (o o' : Obj) : Below w.heap.size w ((w.alloc o).alloc o').drew := (((Below.refl _ _).alloc (Nat.le_refl _) o).alloc (by simp) o').drew
theorem OQ.below {w wr w' : World} {La Ba L B : Nat} {i : Im} {p5 p6 p7 : Nat} (h : OQ w wr La Ba L B i p5 p6 p7) (hb : Below wr.heap.size wr w') : OQ w w' La Ba L B i p5 p6 p7 :=
  ⟨h.bel.trans (hb.mono h.bel.size), row_below h.r5 hb, row_below h.r6 hb, row_below h.r7 hb⟩
theorem oe_loads {w : World} {p : Nat} {e : En} (h : w.heap[p]? = some (.cells e.cells 43 (0, 0))) : (Instr.loadAt 43 (.pointer (some ⟨p, 0, none⟩))).run Tryd.prog w = .ok (.agg e.cells) w :=
  run_loadAt_mid w p 0 _ e.cells.toList _ (fun j v hv => by rw [Nat.zero_add, cell_of_row w p j _ _ _ h]; simpa using hv) Tryd.underlying43 rfl e_size
theorem ido_ok {i : Im} {e : En} (hi : i.ok) (hg : Gd i.L i.B) (hr : e.rq < 18446744073709551616) : (ido i e).1.ok := by
  unfold ido
  split
  · exact hi
  · split
    · next hroom =>
      have h1 := (mset_gd i.L i.B e.ix hi.2.1 hroom hg).1
      have h2 := mset_lt i.L i.B e.ix hi.2.1 hroom
      split
      · split
        · exact ⟨by show (mset i.L i.B e.ix).1 < _; omega, h2, addT_ok hi.2.2 _ _ hr⟩
        · exact hi
      · exact ⟨by show (mset i.L i.B e.ix).1 < _; omega, h2, hi.2.2⟩
    · exact hi
theorem OR.below {w wr w' : World} {La Ba L B : Nat} {i : Im} {p5 p6 p7 p9 p10 : Nat} (h : OR w wr La Ba L B i p5 p6 p7 p9 p10) (hb : Below wr.heap.size wr w') : OR w w' La Ba L B i p5 p6 p7 p9 p10 :=
  ⟨h.q.below hb, row_below h.r9 hb, row_below h.r10 hb⟩
set_option maxHeartbeats 8000000 in
theorem orderTells_at {w : World} {A : Option Addr} {n c : Nat} {es : List En} (h : Ents w A n c es) (La Ba L B : Nat) (hLa : La < 18446744073709551616) (hBa : Ba < 18446744073709551616) (hL : L < 18446744073709551616) (hB : B < 18446744073709551616) (i : Im) (hi : i.ok) (hiL : i.L < 18446744073709551616) (hiB : i.B < 18446744073709551616) (ht : Tab w) :
    Calls Tryd.prog 3 #[.slice A n c, .agg #[.int .u64 (La : Int), .int .u64 (Ba : Int)], .agg #[.int .u64 (L : Int), .int .u64 (B : Int)], imv i] w fun r w' => r = .returned (.bool true) ∧ Below w.heap.size w w' := by
  have hs : (str i.l).size = i.l.length := rfl
  have HT := Lib.hid ht
  have HH := Lib.hid h
  have HOK := Lib.hid hi
  have HLI := Lib.hid (fun W (hb : Below w.heap.size w W) => light22 (h.below hb))
  have HNE := Lib.hid (fun W (hb : Below w.heap.size w W) => near_any (B := B) (h.below hb) hL)
  have HG1 := Lib.hid (fun W (hb : Below w.heap.size w W) => good_any La Ba W hLa hBa (ht.below hb))
  have HG2 := Lib.hid (fun W (hb : Below w.heap.size w W) => good_any L B W hL hB (ht.below hb))
  have HG3 := Lib.hid (fun W (hb : Below w.heap.size w W) => good_any i.L i.B W hiL hiB (ht.below hb))
  have HLL := Lib.hid (And.intro hLa (And.intro hBa (And.intro hL (And.intro hB (And.intro hiL hiB)))))
  clear hLa hBa hL hB hiL hiB
  clear h hi ht
  go_enter Tryd.func3, Tryd.ntmps3
  go_wp2_with (first
    | (refine wpL_rbox (cs := [.int .u64 (La : Int), .int .u64 (Ba : Int)]) (o := ⟨some 5, _, _, _, _, _⟩) rfl (.tmp 1) rfl rfl ?_; intro W0 p5 hN; obtain ⟨hb5, hr5, hl5, hz5⟩ := hN)
    | (refine wpL_rbox (cs := [.int .u64 (L : Int), .int .u64 (B : Int)]) (o := ⟨some 6, _, _, _, _, _⟩) rfl (.tmp 2) rfl rfl ?_; intro W1 p6 hN; obtain ⟨hb6, hr6, hl6, hz6⟩ := hN)
    | (refine wpL_rbox (cs := icells i) (o := ⟨some 7, _, _, _, _, _⟩) rfl (.tmp 3) rfl rfl ?_; intro W2 p7 hN; obtain ⟨hb7, hr7, hl7, hz7⟩ := hN
       have HQ := Lib.hid (show OQ w W2 La Ba L B i p5 p6 p7 from ⟨hl5.trans ((hl6.trans (hl7.mono hl6.size)).mono hl5.size), row_below (row_below hr5.out hl6) hl7, row_below hr6.out hl7, hr7.out⟩)
       clear hb5 hr5 hl5 hz5 hb6 hr6 hl6 hz6 hb7 hr7 hl7 hz7)
    | fail)
  refine (HLI.out _ HQ.out.bel).mono ?_
  rintro e w1 ⟨bl, rfl, hf1, hb1⟩
  have HF1 := Lib.hid hf1
  clear hf1
  have HQ2 := Lib.hid (HQ.out.below hb1)
  clear HQ hb1
  have HQ := HQ2
  clear HQ2
  have a0 : w1.cell? ⟨p5, 0, none⟩ = some (.int .u64 (La : Int)) := (cell_of_row w1 p5 0 _ _ _ HQ.out.r5).trans rfl
  have a1 : w1.cell? ⟨p5, 1, none⟩ = some (.int .u64 (Ba : Int)) := (cell_of_row w1 p5 1 _ _ _ HQ.out.r5).trans rfl
  have b0 : w1.cell? ⟨p6, 0, none⟩ = some (.int .u64 (L : Int)) := (cell_of_row w1 p6 0 _ _ _ HQ.out.r6).trans rfl
  have b1 : w1.cell? ⟨p6, 1, none⟩ = some (.int .u64 (B : Int)) := (cell_of_row w1 p6 1 _ _ _ HQ.out.r6).trans rfl
  have c0 := icell0 HQ.out.r7
  have c1 := icell1 HQ.out.r7
  have c2 := icell2 HQ.out.r7
  cases bl
  · skip
    go_wp2_with (fail)
    refine (lives22 _ (HT.out.below HQ.out.bel)).mono ?_
    rintro e w9 ⟨rfl, hb9⟩
    go_wp2_with (fail)
    go_ret
    exact ⟨rfl, HQ.out.bel.trans (hb9.mono HQ.out.bel.size)⟩
  · skip
    go_wp2_with (fail)
    refine (HG1.out _ HQ.out.bel).mono ?_
    rintro e w2 ⟨rfl, hb2⟩
    have HQ2 := Lib.hid (HQ.out.below hb2)
    clear HQ hb2 a0 a1 b0 b1 c0 c1 c2
    have HQ := HQ2
    clear HQ2
    have a0 : w2.cell? ⟨p5, 0, none⟩ = some (.int .u64 (La : Int)) := (cell_of_row w2 p5 0 _ _ _ HQ.out.r5).trans rfl
    have a1 : w2.cell? ⟨p5, 1, none⟩ = some (.int .u64 (Ba : Int)) := (cell_of_row w2 p5 1 _ _ _ HQ.out.r5).trans rfl
    have b0 : w2.cell? ⟨p6, 0, none⟩ = some (.int .u64 (L : Int)) := (cell_of_row w2 p6 0 _ _ _ HQ.out.r6).trans rfl
    have b1 : w2.cell? ⟨p6, 1, none⟩ = some (.int .u64 (B : Int)) := (cell_of_row w2 p6 1 _ _ _ HQ.out.r6).trans rfl
    have c0 := icell0 HQ.out.r7
    have c1 := icell1 HQ.out.r7
    have c2 := icell2 HQ.out.r7
    cases hg1 : gdB La Ba
    · skip
      go_wp2_with (fail)
      refine (lives22 _ (HT.out.below HQ.out.bel)).mono ?_
      rintro e w9 ⟨rfl, hb9⟩
      go_wp2_with (fail)
      go_ret
      exact ⟨rfl, HQ.out.bel.trans (hb9.mono HQ.out.bel.size)⟩
    · skip
      go_wp2_with (fail)
      refine (HG2.out _ HQ.out.bel).mono ?_
      rintro e w3 ⟨rfl, hb3⟩
      have HQ2 := Lib.hid (HQ.out.below hb3)
      clear HQ hb3 a0 a1 b0 b1 c0 c1 c2
      have HQ := HQ2
      clear HQ2
      have a0 : w3.cell? ⟨p5, 0, none⟩ = some (.int .u64 (La : Int)) := (cell_of_row w3 p5 0 _ _ _ HQ.out.r5).trans rfl
      have a1 : w3.cell? ⟨p5, 1, none⟩ = some (.int .u64 (Ba : Int)) := (cell_of_row w3 p5 1 _ _ _ HQ.out.r5).trans rfl
      have b0 : w3.cell? ⟨p6, 0, none⟩ = some (.int .u64 (L : Int)) := (cell_of_row w3 p6 0 _ _ _ HQ.out.r6).trans rfl
      have b1 : w3.cell? ⟨p6, 1, none⟩ = some (.int .u64 (B : Int)) := (cell_of_row w3 p6 1 _ _ _ HQ.out.r6).trans rfl
      have c0 := icell0 HQ.out.r7
      have c1 := icell1 HQ.out.r7
      have c2 := icell2 HQ.out.r7
      cases hg2 : gdB L B
      · skip
        go_wp2_with (fail)
        refine (lives22 _ (HT.out.below HQ.out.bel)).mono ?_
        rintro e w9 ⟨rfl, hb9⟩
        go_wp2_with (fail)
        go_ret
        exact ⟨rfl, HQ.out.bel.trans (hb9.mono HQ.out.bel.size)⟩
      · skip
        go_wp2_with (fail)
        refine (HNE.out _ HQ.out.bel).mono ?_
        rintro e w4 ⟨bn4, rfl, _, hb4⟩
        have HQ2 := Lib.hid (HQ.out.below hb4)
        clear HQ hb4 a0 a1 b0 b1 c0 c1 c2
        have HQ := HQ2
        clear HQ2
        have a0 : w4.cell? ⟨p5, 0, none⟩ = some (.int .u64 (La : Int)) := (cell_of_row w4 p5 0 _ _ _ HQ.out.r5).trans rfl
        have a1 : w4.cell? ⟨p5, 1, none⟩ = some (.int .u64 (Ba : Int)) := (cell_of_row w4 p5 1 _ _ _ HQ.out.r5).trans rfl
        have b0 : w4.cell? ⟨p6, 0, none⟩ = some (.int .u64 (L : Int)) := (cell_of_row w4 p6 0 _ _ _ HQ.out.r6).trans rfl
        have b1 : w4.cell? ⟨p6, 1, none⟩ = some (.int .u64 (B : Int)) := (cell_of_row w4 p6 1 _ _ _ HQ.out.r6).trans rfl
        have c0 := icell0 HQ.out.r7
        have c1 := icell1 HQ.out.r7
        have c2 := icell2 HQ.out.r7
        cases bn4
        · skip
          go_wp2_with (fail)
          refine (lives22 _ (HT.out.below HQ.out.bel)).mono ?_
          rintro e w9 ⟨rfl, hb9⟩
          go_wp2_with (fail)
          go_ret
          exact ⟨rfl, HQ.out.bel.trans (hb9.mono HQ.out.bel.size)⟩
        · by_cases hl : 1000 < i.l.length
          · have q1 : decide ((1000 : Int) < (i.l.length : Int)) = true := by simp; omega
            go_wp2_with (fail)
            refine (lives22 _ (HT.out.below HQ.out.bel)).mono ?_
            rintro e w9 ⟨rfl, hb9⟩
            go_wp2_with (fail)
            go_ret
            exact ⟨rfl, HQ.out.bel.trans (hb9.mono HQ.out.bel.size)⟩
          · have q1 : decide ((1000 : Int) < (i.l.length : Int)) = false := by simp; omega
            go_wp2_with (fail)
            refine (HG3.out _ HQ.out.bel).mono ?_
            rintro e w5 ⟨rfl, hb5⟩
            have HQ2 := Lib.hid (HQ.out.below hb5)
            clear HQ hb5 a0 a1 b0 b1 c0 c1 c2
            have HQ := HQ2
            clear HQ2
            have a0 : w5.cell? ⟨p5, 0, none⟩ = some (.int .u64 (La : Int)) := (cell_of_row w5 p5 0 _ _ _ HQ.out.r5).trans rfl
            have a1 : w5.cell? ⟨p5, 1, none⟩ = some (.int .u64 (Ba : Int)) := (cell_of_row w5 p5 1 _ _ _ HQ.out.r5).trans rfl
            have b0 : w5.cell? ⟨p6, 0, none⟩ = some (.int .u64 (L : Int)) := (cell_of_row w5 p6 0 _ _ _ HQ.out.r6).trans rfl
            have b1 : w5.cell? ⟨p6, 1, none⟩ = some (.int .u64 (B : Int)) := (cell_of_row w5 p6 1 _ _ _ HQ.out.r6).trans rfl
            have c0 := icell0 HQ.out.r7
            have c1 := icell1 HQ.out.r7
            have c2 := icell2 HQ.out.r7
            cases hg3 : gdB i.L i.B
            · skip
              go_wp2_with (fail)
              refine (lives22 _ (HT.out.below HQ.out.bel)).mono ?_
              rintro e w9 ⟨rfl, hb9⟩
              go_wp2_with (fail)
              go_ret
              exact ⟨rfl, HQ.out.bel.trans (hb9.mono HQ.out.bel.size)⟩
            · skip
              go_wp2_with (fail)
              go_cut [9, 10] (fun u v wx => ∃ p9 p10, u = .pointer (some ⟨p9, 0, none⟩) ∧ v = .pointer (some ⟨p10, 0, none⟩) ∧ Hid (OQ w wx La Ba L B i p5 p6 p7) ∧ Hid (wx.heap[p9]? = some (.cells #[.int .u64 (La : Int), .int .u64 (Ba : Int)] 37 (0, 0))) ∧ Hid (wx.heap[p10]? = some (.cells #[.int .u64 (L : Int), .int .u64 (B : Int)] 37 (0, 0))))
              case first =>
                have a0d : w5.drew.cell? ⟨p5, 0, none⟩ = some (.int .u64 (La : Int)) := a0
                have a0x : ∀ o : Obj, (w5.alloc o).drew.cell? ⟨p5, 0, none⟩ = some (.int .u64 (La : Int)) := fun o => cell_old o a0
                have a0y : ∀ o o' : Obj, ((w5.alloc o).alloc o').drew.cell? ⟨p5, 0, none⟩ = some (.int .u64 (La : Int)) := fun o o' => cell_old o' (cell_old o a0)
                have a1d : w5.drew.cell? ⟨p5, 1, none⟩ = some (.int .u64 (Ba : Int)) := a1
                have a1x : ∀ o : Obj, (w5.alloc o).drew.cell? ⟨p5, 1, none⟩ = some (.int .u64 (Ba : Int)) := fun o => cell_old o a1
                have a1y : ∀ o o' : Obj, ((w5.alloc o).alloc o').drew.cell? ⟨p5, 1, none⟩ = some (.int .u64 (Ba : Int)) := fun o o' => cell_old o' (cell_old o a1)
                have b0d : w5.drew.cell? ⟨p6, 0, none⟩ = some (.int .u64 (L : Int)) := b0
                have b0x : ∀ o : Obj, (w5.alloc o).drew.cell? ⟨p6, 0, none⟩ = some (.int .u64 (L : Int)) := fun o => cell_old o b0
                have b0y : ∀ o o' : Obj, ((w5.alloc o).alloc o').drew.cell? ⟨p6, 0, none⟩ = some (.int .u64 (L : Int)) := fun o o' => cell_old o' (cell_old o b0)
                have b1d : w5.drew.cell? ⟨p6, 1, none⟩ = some (.int .u64 (B : Int)) := b1
                have b1x : ∀ o : Obj, (w5.alloc o).drew.cell? ⟨p6, 1, none⟩ = some (.int .u64 (B : Int)) := fun o => cell_old o b1
                have b1y : ∀ o o' : Obj, ((w5.alloc o).alloc o').drew.cell? ⟨p6, 1, none⟩ = some (.int .u64 (B : Int)) := fun o o' => cell_old o' (cell_old o b1)
                go_region
                · go_wp2_with (fail)
                  go_meet
                  case rel => exact ⟨_, _, rfl, rfl, Lib.hid (HQ.out.below (two_below _ _ _)), Lib.hid (row_old (w := w5.alloc _) _ (row_here w5 _ rfl)), Lib.hid (row_here (w5.alloc _) _ (by simp))⟩
                · go_wp2_with (fail)
                  go_meet
                  case rel => exact ⟨_, _, rfl, rfl, Lib.hid (HQ.out.below (two_below _ _ _)), Lib.hid (row_here (w5.alloc _) _ (by simp)), Lib.hid (row_old (w := w5.alloc _) _ (row_here w5 _ rfl))⟩
              case rest =>
                obtain ⟨p9, p10, rfl, rfl, HQc, H9, H10⟩ := hcut
                have hgd1 : Gd La Ba := (gdB_iff La Ba).1 hg1
                have hgd2 : Gd L B := (gdB_iff L B).1 hg2
                have hgd3 : Gd i.L i.B := (gdB_iff i.L i.B).1 hg3
                have hfit := HF1.out trivial
                have hn40 : n ≤ 40 := by have := hfit.1; have := HH.out.len; omega
                have hni : (n : Int) ≤ 40 := by omega
                have HGD := Lib.hid (And.intro hgd1 (And.intro hgd2 (And.intro hgd3 (And.intro hfit (show i.l.length ≤ 1000 by omega)))))
                have HOR := Lib.hid (show OR w wc La Ba L B i p5 p6 p7 p9 p10 from ⟨HQc.out, H9.out, H10.out⟩)
                have HI8 := Lib.hid HOK.out.2.2.1
                clear HQ HQc H9 H10 hfit hgd1 hgd2 hgd3 hg1 hg2 hg3 hl q1 HG1 HG2 HG3 HLI HNE HF1 hs a0 a1 b0 b1 c0 c1 c2
                go_wp2_with (fail)
                go_loopw [14, 16, 53] (fun _ _ kr wr => ∃ (k : Nat), k ≤ n ∧ kr = .int .i64 (k : Int) ∧ Hid (OR w wr La Ba L B i p5 p6 p7 p9 p10)) (fun _ _ kr _ => n - (intOf kr).toNat)
                case atStart => exact ⟨0, Nat.zero_le _, rfl, HOR⟩
                case round =>
                  clear HOR
                  obtain ⟨k, hk, rfl, HOR⟩ := hrel
                  by_cases hkn : k < n
                  · obtain ⟨e0, he⟩ : ∃ e0, es[k]? = some e0 := ⟨_, List.getElem?_eq_getElem (by have := HH.out.len; omega)⟩
                    obtain ⟨b1, o1, rfl, hb1b, hc1⟩ := HH.out.rd.2.2.2 (by omega)
                    have hce := fun c u (hu : e0.cells[c]? = some u) => (HOR.out.q.bel.cell (p := ⟨b1, o1 + (k * 10 + c), none⟩) hb1b).trans (hc1 _ _ (ens_get es k _ he c u hu))
                    have HRE := Lib.hid (HH.out.reads e0 (List.mem_of_getElem? he))
                    have HDA := Lib.hid (show e0.da.length ≤ 100000 by have := (HGD.out.2.2.2.1.2 e0 (List.mem_of_getElem? he)).1; omega)
                    have HDO := Lib.hid (fun W (hb : Below w.heap.size w W) => do_any i e0 W HOK.out (HRE.out.below hb) (HT.out.below hb) HGD.out.2.2.1 (Nat.le_trans HGD.out.2.2.2.2 (by decide)) HDA.out)
                    have HKN := Lib.hid hkn
                    have hkk : (k : Int) < (n : Int) := by omega
                    clear hc1 he hkn
                    generalize hd : ido i e0 = r at *
                    have HD := Lib.hid hd
                    clear hd
                    obtain ⟨j, E⟩ := r
                    obtain ⟨ix, tm, st, kd, cl, rq, fr, ct, da, A1, bn, bc, ls⟩ := e0
                    unfold En.cells at hce HDO
                    dsimp only at *
                    have k0 := hce 0 _ rfl
                    have k1 := hce 1 _ rfl
                    have k2 := hce 2 _ rfl
                    have k3 := hce 3 _ rfl
                    have k4 := hce 4 _ rfl
                    have k5 := hce 5 _ rfl
                    have k6 := hce 6 _ rfl
                    have k7 := hce 7 _ rfl
                    have k8 := hce 8 _ rfl
                    have k9 := hce 9 _ rfl
                    try dsimp only at k0 k1 k2 k3 k4 k5 k6 k7 k8 k9
                    simp only [← Nat.add_assoc, Nat.add_zero] at k0 k1 k2 k3 k4 k5 k6 k7 k8 k9
                    clear hce
                    obtain ⟨W1, hW1, hz1, r12, hb12⟩ := Bh.row1 wr #[.int .u64 (ix : Int), .int .u64 (tm : Int), .int .u64 (st : Int), .int .i64 kd, .int .u64 (cl : Int), .int .u64 (rq : Int), .int .u32 (fr : Int), .int .u32 (ct : Int), .string (str da), .slice A1 bn bc] 43
                    have HOR1 := Lib.hid (HOR.out.below hb12)
                    have R12 := Lib.hid r12
                    go_wp2_with (first
                      | (rw [← hW1]; refine imA.wpLoad (by rfl) (.tmp 7) rfl rfl HOR1.out.q.r7 HI8.out ?_)
                      | fail)
                    rw [← hW1]
                    obtain ⟨p12, hp12⟩ : ∃ p12, wr.heap.size = p12 := ⟨_, rfl⟩
                    rw [hp12] at R12 ⊢
                    clear hW1 hz1 r12 hb12 hp12 k0 k1 k2 k3 k4 k5 k6 k7 k8 k9
                    have h08 : I0.T.length = 8 := rfl
                    have hjok : j.ok := by have := ido_ok (e := ⟨ix, tm, st, kd, cl, rq, fr, ct, da, A1, bn, bc, ls⟩) HOK.out HGD.out.2.2.1 HRE.out.look.2.1; rw [HD.out] at this; exact this
                    have HJ8 := Lib.hid hjok.2.2.1
                    have HP := Lib.hid (fun W => iplain_any i W HOK.out)
                    have HPJ := Lib.hid (fun W => iplain_any j W hjok)
                    have hrdo := fun W (hb : Below w.heap.size w W) => rdo_any i ⟨ix, tm, st, kd, cl, rq, fr, ct, da, A1, bn, bc, ls⟩ W HOK.out (HRE.out.below hb) HGD.out.2.2.1 (Nat.le_trans HGD.out.2.2.2.2 (by decide)) HDA.out
                    rw [HD.out] at hrdo
                    unfold En.cells at hrdo
                    dsimp only at hrdo
                    have HRDO := Lib.hid hrdo
                    clear hjok hrdo
                    refine (HDO.out W1 HOR1.out.q.bel).mono ?_
                    rintro e w2 ⟨rfl, hb2⟩
                    have HOR2 := Lib.hid (HOR1.out.below hb2)
                    have R12b := Lib.hid (row_below R12.out hb2)
                    clear hb2 R12 HOR1 HDO
                    go_wp2_with (first
                      | (refine imA.wpNew (o := ⟨some 13, _, _, _, _, _⟩) rfl rfl ?_; intro W3 b13 hN; obtain ⟨hb13, hr13, hl13, hz13⟩ := hN
                         have h13w : w2.heap.size ≤ b13 := by have := hb13.out; omega)
                      | (refine imA.wpStore rfl (.tmp 13) (.tmp 61) rfl rfl rfl hr13.out h08 HJ8.out ?_; intro W RJ hg13 hz13'
                         have hw2W := hl13.grown hg13 hl13.size (fun k e => by cases e; exact h13w)
                         have HORW := Lib.hid (HOR2.out.below hw2W)
                         have R12c := Lib.hid (row_below R12b.out hw2W)
                         clear hw2W hg13 hz13' hl13 hz13 hr13 hb13 h13w HOR2 R12b)
                      | fail)
                    have R7 := Lib.hid HORW.out.q.r7
                    have h7W : p7 < W.heap.size := (Array.getElem?_eq_some_iff.1 R7.out).1
                    have h13W0 : b13 < W.heap.size := (Array.getElem?_eq_some_iff.1 RJ.out).1
                    have HBW := Lib.hid HORW.out.q.bel
                    have HLE := Lib.hid (fun W' (hb : Below W.heap.size W W') => oe_loads (e := ⟨ix, tm, st, kd, cl, rq, fr, ct, da, A1, bn, bc, ls⟩) (row_below R12c.out hb))
                    go_cut [15, 16] (fun u v wx => ∃ r, u = .pointer (some ⟨r, 0, none⟩) ∧ v = .int .i64 E ∧ W.heap.size ≤ r ∧ Hid (wx.heap[r]? = some (.cells (icells j).toArray 51 (0, 0))) ∧ Hid (Below W.heap.size W wx))
                    case first =>
                      refine wp_tree W.heap.size (.two [0, 2] 1 7 (.two [] 3 7 (.one [4, 5, 6] 7 (.one [] 8 (.fin [9]))) (.one [] 3 (.one [4, 5, 6] 8 (.fin [9])))) (.one [] 1 (.one [] 3 (.one [4, 5, 6] 8 (.fin [9]))))) (by kernel_rfl) (by kernel_rfl) (fun d _ _ _ _ h => by cases d <;> exact h) fun wd hbd => ?_
                      intro q hq
                      simp only [pickI, Option.toList_some, List.cons_append, List.nil_append, List.getElem?_toArray, List.getElem?_cons_succ, List.getElem?_cons_zero]
                      try go_frame
                      refine imA.wpQload (by rfl) (.tmp 7) rfl rfl (fun W hW => by obtain ⟨z, rfl⟩ := hW; exact below_row (hq z) R7.out h7W) HI8.out ?_
                      try go_frame
                      refine wpQ_load rfl _ (.tmp 12) rfl rfl (fun w hw => by obtain ⟨z, rfl⟩ := hw; exact HLE.out _ (hq z)) ?_
                      try go_frame
                      refine wpQuiet_nil ?_
                      clear hq q
                      refine ⟨?_, ?_⟩
                      · skip
                        refine seg_op (by simp only [List.getElem?_toArray, List.getElem?_cons_succ, List.getElem?_cons_zero]; rfl) fun K hK => ?_
                        go_simp
                        refine (HP.out _).mono ?_
                        rintro e v1 ⟨rfl, b1⟩
                        have z1 := hbd.trans (b1.mono hbd.size)
                        clear b1
                        refine hK.out _ _ ⟨z1, ?_⟩
                        clear hK K
                        intro q hq
                        refine wpQuiet_nil ?_
                        clear hq q
                        refine ⟨?_, ?_⟩
                        · skip
                          refine seg_op (by simp only [List.getElem?_toArray, List.getElem?_cons_succ, List.getElem?_cons_zero]; rfl) fun K hK => ?_
                          go_simp
                          refine (HRDO.out _ (HBW.out.trans (z1.mono HBW.out.size))).mono ?_
                          rintro e v2 ⟨rfl, b2⟩
                          have z2 := z1.trans (b2.mono z1.size)
                          clear b2
                          refine hK.out _ _ ⟨z2, ?_⟩
                          clear hK K
                          intro q hq
                          simp only [pickI, Option.toList_some, List.cons_append, List.nil_append, List.getElem?_toArray, List.getElem?_cons_succ, List.getElem?_cons_zero]
                          try go_frame
                          go_big_quiet_step (fail)
                          go_big_quiet_step (fail)
                          go_big_quiet_step (fail)
                          refine wpQuiet_nil ?_
                          clear hq q
                          refine seg_op (by simp only [List.getElem?_toArray, List.getElem?_cons_succ, List.getElem?_cons_zero]; rfl) fun K hK => ?_
                          rw [if_pos (by rfl)]
                          refine imB.opNew rfl ?_
                          intro v3 r3 hN3
                          obtain ⟨e3, R3, b3, y3⟩ := hN3
                          have z3 := z2.trans (b3.mono z2.size)
                          have l3 : W.heap.size ≤ r3 := by have := e3.out; have := z2.size; omega
                          clear e3 b3 y3
                          refine hK.out _ _ ⟨z3, ?_⟩
                          clear hK K
                          intro q hq
                          refine wpQuiet_nil ?_
                          clear hq q
                          refine seg_op (by simp only [List.getElem?_toArray, List.getElem?_cons_succ, List.getElem?_cons_zero]; rfl) fun K hK => ?_
                          rw [if_pos (by rfl)]
                          refine imB.opStore (.tmp 15) (.tmp 68) rfl rfl rfl R3.out h08 HJ8.out ?_
                          intro W9 hr9 hg9 hz9
                          have z9 := z3.grown hg9 z3.size (fun k e => by cases e; exact l3)
                          refine hK.out _ _ ⟨z9, ?_⟩
                          clear hK K
                          intro q hq
                          simp only [pickI, Option.toList_some, List.cons_append, List.nil_append, List.getElem?_toArray, List.getElem?_cons_succ, List.getElem?_cons_zero]
                          try go_frame
                          go_big_quiet_step (fail)
                          refine wpQuiet_nil ?_
                          clear hq q
                          have Z9 := Lib.hid z9
                          clear z9 hg9 hz9
                          go_wp2_with (fail)
                          go_meet
                          case rel => exact ⟨r3, rfl, rfl, l3, hr9, Z9⟩
                        · skip
                          refine seg_op (by simp only [List.getElem?_toArray, List.getElem?_cons_succ, List.getElem?_cons_zero]; rfl) fun K hK => ?_
                          rw [if_pos (by rfl)]
                          refine imB.opNew rfl ?_
                          intro v4 r4 hN4
                          obtain ⟨e4, R4, b4, y4⟩ := hN4
                          have z4 := z1.trans (b4.mono z1.size)
                          have l4 : W.heap.size ≤ r4 := by have := e4.out; have := z1.size; omega
                          clear e4 b4 y4
                          refine hK.out _ _ ⟨z4, ?_⟩
                          clear hK K
                          intro q hq
                          refine wpQuiet_nil ?_
                          clear hq q
                          refine seg_op (by simp only [List.getElem?_toArray, List.getElem?_cons_succ, List.getElem?_cons_zero]; rfl) fun K hK => ?_
                          go_simp
                          refine (HRDO.out _ (HBW.out.trans (z4.mono HBW.out.size))).mono ?_
                          rintro e v5 ⟨rfl, b5⟩
                          have z5 := z4.trans (b5.mono z4.size)
                          have R5 := Lib.hid (row_below R4.out b5)
                          clear b5
                          refine hK.out _ _ ⟨z5, ?_⟩
                          clear hK K
                          intro q hq
                          simp only [pickI, Option.toList_some, List.cons_append, List.nil_append, List.getElem?_toArray, List.getElem?_cons_succ, List.getElem?_cons_zero]
                          try go_frame
                          go_big_quiet_step (fail)
                          go_big_quiet_step (fail)
                          go_big_quiet_step (fail)
                          refine wpQuiet_nil ?_
                          clear hq q
                          refine seg_op (by simp only [List.getElem?_toArray, List.getElem?_cons_succ, List.getElem?_cons_zero]; rfl) fun K hK => ?_
                          rw [if_pos (by rfl)]
                          refine imB.opStore (.tmp 15) (.tmp 68) rfl rfl rfl R5.out h08 HJ8.out ?_
                          intro W9 hr9 hg9 hz9
                          have z9 := z5.grown hg9 z5.size (fun k e => by cases e; exact l4)
                          refine hK.out _ _ ⟨z9, ?_⟩
                          clear hK K
                          intro q hq
                          simp only [pickI, Option.toList_some, List.cons_append, List.nil_append, List.getElem?_toArray, List.getElem?_cons_succ, List.getElem?_cons_zero]
                          try go_frame
                          go_big_quiet_step (fail)
                          refine wpQuiet_nil ?_
                          clear hq q
                          have Z9 := Lib.hid z9
                          clear z9 hg9 hz9
                          go_wp2_with (fail)
                          go_meet
                          case rel => exact ⟨r4, rfl, rfl, l4, hr9, Z9⟩
                      · skip
                        refine seg_op (by simp only [List.getElem?_toArray, List.getElem?_cons_succ, List.getElem?_cons_zero]; rfl) fun K hK => ?_
                        rw [if_pos (by rfl)]
                        refine imB.opNew rfl ?_
                        intro v6 r6 hN6
                        obtain ⟨e6, R6, b6, y6⟩ := hN6
                        have z6 := hbd.trans (b6.mono hbd.size)
                        have l6 : W.heap.size ≤ r6 := by have := e6.out; have := hbd.size; omega
                        clear e6 b6 y6
                        refine hK.out _ _ ⟨z6, ?_⟩
                        clear hK K
                        intro q hq
                        refine wpQuiet_nil ?_
                        clear hq q
                        refine seg_op (by simp only [List.getElem?_toArray, List.getElem?_cons_succ, List.getElem?_cons_zero]; rfl) fun K hK => ?_
                        go_simp
                        refine (HP.out _).mono ?_
                        rintro e v7 ⟨rfl, b7⟩
                        have z7 := z6.trans (b7.mono z6.size)
                        have R7 := Lib.hid (row_below R6.out b7)
                        clear b7
                        refine hK.out _ _ ⟨z7, ?_⟩
                        clear hK K
                        intro q hq
                        refine wpQuiet_nil ?_
                        clear hq q
                        refine seg_op (by simp only [List.getElem?_toArray, List.getElem?_cons_succ, List.getElem?_cons_zero]; rfl) fun K hK => ?_
                        go_simp
                        refine (HRDO.out _ (HBW.out.trans (z7.mono HBW.out.size))).mono ?_
                        rintro e v8 ⟨rfl, b8⟩
                        have z8 := z7.trans (b8.mono z7.size)
                        have R8 := Lib.hid (row_below R7.out b8)
                        clear b8
                        refine hK.out _ _ ⟨z8, ?_⟩
                        clear hK K
                        intro q hq
                        simp only [pickI, Option.toList_some, List.cons_append, List.nil_append, List.getElem?_toArray, List.getElem?_cons_succ, List.getElem?_cons_zero]
                        try go_frame
                        go_big_quiet_step (fail)
                        go_big_quiet_step (fail)
                        go_big_quiet_step (fail)
                        refine wpQuiet_nil ?_
                        clear hq q
                        refine seg_op (by simp only [List.getElem?_toArray, List.getElem?_cons_succ, List.getElem?_cons_zero]; rfl) fun K hK => ?_
                        rw [if_pos (by rfl)]
                        refine imB.opStore (.tmp 15) (.tmp 68) rfl rfl rfl R8.out h08 HJ8.out ?_
                        intro W9 hr9 hg9 hz9
                        have z9 := z8.grown hg9 z8.size (fun k e => by cases e; exact l6)
                        refine hK.out _ _ ⟨z9, ?_⟩
                        clear hK K
                        intro q hq
                        simp only [pickI, Option.toList_some, List.cons_append, List.nil_append, List.getElem?_toArray, List.getElem?_cons_succ, List.getElem?_cons_zero]
                        try go_frame
                        go_big_quiet_step (fail)
                        refine wpQuiet_nil ?_
                        clear hq q
                        have Z9 := Lib.hid z9
                        clear z9 hg9 hz9
                        go_wp2_with (fail)
                        go_meet
                        case rel => exact ⟨r6, rfl, rfl, l6, hr9, Z9⟩
                    case rest =>
                      obtain ⟨b15, rfl, rfl, h15, RR, hz⟩ := hcut
                      have HORc := Lib.hid (HORW.out.below hz.out)
                      have J5 := Lib.hid (row_below RJ.out hz.out)
                      have R12d := Lib.hid (row_below R12c.out hz.out)
                      have h13W : b13 < wc.heap.size := (Array.getElem?_eq_some_iff.1 J5.out).1
                      have h15W : b15 < wc.heap.size := (Array.getElem?_eq_some_iff.1 RR.out).1
                      have h6W : p6 < wc.heap.size := (Array.getElem?_eq_some_iff.1 HORc.out.q.r6).1
                      have h10W : p10 < wc.heap.size := (Array.getElem?_eq_some_iff.1 HORc.out.r10).1
                      have HLE5 := Lib.hid (fun W' (hb : Below wc.heap.size wc W') => oe_loads (e := ⟨ix, tm, st, kd, cl, rq, fr, ct, da, A1, bn, bc, ls⟩) (row_below R12d.out hb))
                      have HBc := Lib.hid HORc.out.q.bel
                      have HM1 := Lib.hid (fun W' (hb : Below wc.heap.size wc W') => may_any ⟨ix, tm, st, kd, cl, rq, fr, ct, da, A1, bn, bc, ls⟩ L B W' (HRE.out.below (HBc.out.trans (hb.mono HBc.out.size))) (by have := HGD.out.2.1.1; omega) HLL.out.2.2.2.1)
                      have HM2 := Lib.hid (fun W' (hb : Below wc.heap.size wc W') => rmay_any ⟨ix, tm, st, kd, cl, rq, fr, ct, da, A1, bn, bc, ls⟩ L B W' (HRE.out.below (HBc.out.trans (hb.mono HBc.out.size))) (by have := HGD.out.2.1.1; omega) HLL.out.2.2.2.1)
                      generalize Bh.En.may ⟨ix, tm, st, kd, cl, rq, fr, ct, da, A1, bn, bc, ls⟩ L B = MY at *
                      have m0 : wc.cell? ⟨p6, 0, none⟩ = some (.int .u64 (L : Int)) := (cell_of_row wc p6 0 _ _ _ HORc.out.q.r6).trans rfl
                      have m1 : wc.cell? ⟨p6, 1, none⟩ = some (.int .u64 (B : Int)) := (cell_of_row wc p6 1 _ _ _ HORc.out.q.r6).trans rfl
                      have m2 : wc.cell? ⟨p10, 0, none⟩ = some (.int .u64 (L : Int)) := (cell_of_row wc p10 0 _ _ _ HORc.out.r10).trans rfl
                      have m3 : wc.cell? ⟨p10, 1, none⟩ = some (.int .u64 (B : Int)) := (cell_of_row wc p10 1 _ _ _ HORc.out.r10).trans rfl
                      clear hz R7 h7W HLE HORW RJ R12c HRDO HP HBW h13W0 h15
                      go_wp2_with (fail)
                      refine wp_low wc.heap.size [([0, 1, 3, 4], 2), ([], 5), ([6, 7, 8, 10], 9)] [11, 12, 13, 14, 15, 16, 17] (by kernel_rfl) (by kernel_rfl) (fun d _ _ _ _ h => by cases d <;> exact h) (Nat.le_refl _) fun wd hbd => ?_
                      intro q hq
                      have d0 := fun z => kept (hq z) m0 h6W
                      have d1 := fun z => kept (hq z) m1 h6W
                      have d2 := fun z => kept (hq z) m2 h10W
                      have d3 := fun z => kept (hq z) m3 h10W
                      simp only [pickI, Option.toList_some, List.cons_append, List.nil_append, List.getElem?_toArray, List.getElem?_cons_succ, List.getElem?_cons_zero]
                      try go_frame
                      refine wpQ_load rfl _ (.tmp 12) rfl rfl (fun w hw => by obtain ⟨z, rfl⟩ := hw; exact HLE5.out _ (hq z)) ?_
                      try go_frame
                      go_big_quiet_step (fail)
                      refine wpQ_load rfl _ (.tmp 12) rfl rfl (fun w hw => by obtain ⟨z, rfl⟩ := hw; exact HLE5.out _ (hq z)) ?_
                      try go_frame
                      go_big_quiet_step (fail)
                      refine wpQuiet_nil ?_
                      clear hq q d0 d1 d2 d3
                      refine seg_op (by simp only [List.getElem?_toArray, List.getElem?_cons_succ, List.getElem?_cons_zero]; rfl) fun K hK => ?_
                      go_simp
                      refine (HM1.out _ hbd).mono ?_
                      rintro e v0 ⟨rfl, bv0⟩
                      have zv0 := hbd.trans (bv0.mono hbd.size)
                      refine hK.out _ _ (seg_keep zv0 ?_)
                      clear hK K
                      intro q hq
                      refine wpQuiet_nil ?_
                      clear hq q
                      refine seg_op (by simp only [List.getElem?_toArray, List.getElem?_cons_succ, List.getElem?_cons_zero]; rfl) fun K hK => ?_
                      go_simp
                      refine (HM2.out _ zv0).mono ?_
                      rintro e v1 ⟨rfl, bv1⟩
                      have zv1 := zv0.trans (bv1.mono zv0.size)
                      refine hK.out _ _ (seg_keep zv1 ?_)
                      clear hK K
                      intro q hq
                      have d0 := fun z => kept (hq z) m0 h6W
                      have d1 := fun z => kept (hq z) m1 h6W
                      have d2 := fun z => kept (hq z) m2 h10W
                      have d3 := fun z => kept (hq z) m3 h10W
                      simp only [pickI, Option.toList_some, List.cons_append, List.nil_append, List.getElem?_toArray, List.getElem?_cons_succ, List.getElem?_cons_zero]
                      try go_frame
                      go_big_quiet_step (fail)
                      go_big_quiet_step (fail)
                      refine imA.wpQload (by rfl) (.tmp 13) rfl rfl (fun W hW => by obtain ⟨z, rfl⟩ := hW; exact below_row (hq z) J5.out h13W) HJ8.out ?_
                      try go_frame
                      refine imB.wpQload (by rfl) (.tmp 15) rfl rfl (fun W hW => by obtain ⟨z, rfl⟩ := hW; exact below_row (hq z) RR.out h15W) HJ8.out ?_
                      try go_frame
                      refine wpQuiet_nil ?_
                      clear hq q d0 d1 d2 d3
                      refine seg_op (by simp only [List.getElem?_toArray, List.getElem?_cons_succ, List.getElem?_cons_zero]; rfl) fun K hK => ?_
                      go_simp
                      refine (HPJ.out _).mono ?_
                      rintro e v2 ⟨rfl, bv2⟩
                      have zv2 := zv1.trans (bv2.mono zv1.size)
                      refine hK.out _ _ (seg_keep zv2 ?_)
                      clear hK K
                      intro q hq
                      have d0 := fun z => kept (hq z) m0 h6W
                      have d1 := fun z => kept (hq z) m1 h6W
                      have d2 := fun z => kept (hq z) m2 h10W
                      have d3 := fun z => kept (hq z) m3 h10W
                      simp only [pickI, Option.toList_some, List.cons_append, List.nil_append, List.getElem?_toArray, List.getElem?_cons_succ, List.getElem?_cons_zero]
                      try go_frame
                      refine imB.wpQneq (by rfl) (.tmp 79) (.tmp 80) _ rfl rfl rfl HJ8.out HJ8.out (b := false) (by simp) ?_
                      try go_frame
                      go_big_quiet_step (fail)
                      go_big_quiet_step (fail)
                      go_big_quiet_step (fail)
                      go_big_quiet_step (fail)
                      go_big_quiet_step (fail)
                      go_big_quiet_step (fail)
                      refine wpQuiet_nil ?_
                      clear hq q d0 d1 d2 d3
                      go_wp2
                      go_roundw
                      case rel => exact ⟨k + 1, HKN.out, by go_num, Lib.hid (HORc.out.below zv2)⟩
                      case measure => have := HKN.out; simp [intOf]; omega
                  · obtain rfl : k = n := by omega
                    have HBE := Lib.hid HOR.out.q.bel
                    have h5W : p5 < wr.heap.size := (Array.getElem?_eq_some_iff.1 HOR.out.q.r5).1
                    have h6W : p6 < wr.heap.size := (Array.getElem?_eq_some_iff.1 HOR.out.q.r6).1
                    have h9W : p9 < wr.heap.size := (Array.getElem?_eq_some_iff.1 HOR.out.r9).1
                    have h10W : p10 < wr.heap.size := (Array.getElem?_eq_some_iff.1 HOR.out.r10).1
                    have a0 : wr.cell? ⟨p5, 0, none⟩ = some (.int .u64 (La : Int)) := (cell_of_row wr p5 0 _ _ _ HOR.out.q.r5).trans rfl
                    have a1 : wr.cell? ⟨p5, 1, none⟩ = some (.int .u64 (Ba : Int)) := (cell_of_row wr p5 1 _ _ _ HOR.out.q.r5).trans rfl
                    have b0 : wr.cell? ⟨p6, 0, none⟩ = some (.int .u64 (L : Int)) := (cell_of_row wr p6 0 _ _ _ HOR.out.q.r6).trans rfl
                    have b1 : wr.cell? ⟨p6, 1, none⟩ = some (.int .u64 (B : Int)) := (cell_of_row wr p6 1 _ _ _ HOR.out.q.r6).trans rfl
                    have m0 : wr.cell? ⟨p9, 0, none⟩ = some (.int .u64 (La : Int)) := (cell_of_row wr p9 0 _ _ _ HOR.out.r9).trans rfl
                    have m1 : wr.cell? ⟨p9, 1, none⟩ = some (.int .u64 (Ba : Int)) := (cell_of_row wr p9 1 _ _ _ HOR.out.r9).trans rfl
                    have m2 : wr.cell? ⟨p10, 0, none⟩ = some (.int .u64 (L : Int)) := (cell_of_row wr p10 0 _ _ _ HOR.out.r10).trans rfl
                    have m3 : wr.cell? ⟨p10, 1, none⟩ = some (.int .u64 (B : Int)) := (cell_of_row wr p10 1 _ _ _ HOR.out.r10).trans rfl
                    have HRY := Lib.hid (fun W' (hb : Below wr.heap.size wr W') => ready_any (HH.out.below (HBE.out.trans (hb.mono HBE.out.size))) hn40 (HT.out.below (HBE.out.trans (hb.mono HBE.out.size))) La Ba L B HLL.out.1 HLL.out.2.1 HGD.out.2.1 HLL.out.2.2.2.1)
                    have HRR := Lib.hid (fun W' (hb : Below wr.heap.size wr W') => rready_any (HH.out.below (HBE.out.trans (hb.mono HBE.out.size))) hn40 La Ba L B HLL.out.1 HLL.out.2.1 HGD.out.2.1 HLL.out.2.2.2.1)
                    clear hk hn40
                    go_wp2_with (fail)
                    refine wp_low wr.heap.size [([0, 1, 2, 4, 5, 6], 3), ([], 7), ([], 8), ([9], 10)] [11, 12] (by kernel_rfl) (by kernel_rfl) (fun d _ _ _ _ h => by cases d <;> exact h) (Nat.le_refl _) fun wd hbd => ?_
                    intro q hq
                    have d0 := fun z => kept (hq z) a0 h5W
                    have d1 := fun z => kept (hq z) a1 h5W
                    have d2 := fun z => kept (hq z) b0 h6W
                    have d3 := fun z => kept (hq z) b1 h6W
                    have d4 := fun z => kept (hq z) m0 h9W
                    have d5 := fun z => kept (hq z) m1 h9W
                    have d6 := fun z => kept (hq z) m2 h10W
                    have d7 := fun z => kept (hq z) m3 h10W
                    simp only [pickI, Option.toList_some, List.cons_append, List.nil_append, List.getElem?_toArray, List.getElem?_cons_succ, List.getElem?_cons_zero]
                    try go_frame
                    go_big_quiet_step (fail)
                    go_big_quiet_step (fail)
                    go_big_quiet_step (fail)
                    go_big_quiet_step (fail)
                    go_big_quiet_step (fail)
                    go_big_quiet_step (fail)
                    refine wpQuiet_nil ?_
                    clear hq q d0 d1 d2 d3 d4 d5 d6 d7
                    refine seg_op (by simp only [List.getElem?_toArray, List.getElem?_cons_succ, List.getElem?_cons_zero]; rfl) fun K hK => ?_
                    go_simp
                    refine (HRY.out _ hbd).mono ?_
                    rintro e v0 ⟨l1, hp1, ⟨A5, c5, rfl, hr5⟩, bv0⟩
                    have zv0 := hbd.trans (bv0.mono hbd.size)
                    have HR5 := Lib.hid hr5
                    have HP1 := Lib.hid hp1
                    clear hr5 hp1
                    refine hK.out _ _ (seg_keep zv0 ?_)
                    clear hK K
                    intro q hq
                    refine wpQuiet_nil ?_
                    clear hq q
                    refine seg_op (by simp only [List.getElem?_toArray, List.getElem?_cons_succ, List.getElem?_cons_zero]; rfl) fun K hK => ?_
                    go_simp
                    refine (HRR.out _ zv0).mono ?_
                    rintro e v1 ⟨l2, hp2, ⟨A6, c6, rfl, hr6⟩, bv1⟩
                    have zv1 := zv0.trans (bv1.mono zv0.size)
                    have hll : l2 = l1 := Rdy.uniq hp2 HP1.out
                    subst hll
                    have HR6 := Lib.hid hr6
                    have HR5b := Lib.hid ((HR5.out.below bv1).more bv1.size)
                    clear hr6 hp2
                    refine hK.out _ _ (seg_keep zv1 ?_)
                    clear hK K
                    intro q hq
                    refine wpQuiet_nil ?_
                    clear hq q
                    refine seg_op (by simp only [List.getElem?_toArray, List.getElem?_cons_succ, List.getElem?_cons_zero]; rfl) fun K hK => ?_
                    go_simp
                    refine (ints_any A5 A6 _ c5 c6 _ _ rfl HR5b.out HR6.out).mono ?_
                    rintro e v2 ⟨rfl, bv2⟩
                    have zv2 := zv1.trans (bv2.mono zv1.size)
                    refine hK.out _ _ (seg_keep zv2 ?_)
                    clear hK K
                    intro q hq
                    have d0 := fun z => kept (hq z) a0 h5W
                    have d1 := fun z => kept (hq z) a1 h5W
                    have d2 := fun z => kept (hq z) b0 h6W
                    have d3 := fun z => kept (hq z) b1 h6W
                    have d4 := fun z => kept (hq z) m0 h9W
                    have d5 := fun z => kept (hq z) m1 h9W
                    have d6 := fun z => kept (hq z) m2 h10W
                    have d7 := fun z => kept (hq z) m3 h10W
                    simp only [pickI, Option.toList_some, List.cons_append, List.nil_append, List.getElem?_toArray, List.getElem?_cons_succ, List.getElem?_cons_zero]
                    try go_frame
                    go_big_quiet_step (fail)
                    refine wpQuiet_nil ?_
                    clear hq q d0 d1 d2 d3 d4 d5 d6 d7
                    refine seg_op (by simp only [List.getElem?_toArray, List.getElem?_cons_succ, List.getElem?_cons_zero]; rfl) fun K hK => ?_
                    go_simp
                    refine (lives22 _ (HT.out.below (HBE.out.trans (zv2.mono HBE.out.size)))).mono ?_
                    rintro e v3 ⟨rfl, bv3⟩
                    have zv3 := zv2.trans (bv3.mono zv2.size)
                    refine hK.out _ _ (seg_keep zv3 ?_)
                    clear hK K
                    intro q hq
                    have d0 := fun z => kept (hq z) a0 h5W
                    have d1 := fun z => kept (hq z) a1 h5W
                    have d2 := fun z => kept (hq z) b0 h6W
                    have d3 := fun z => kept (hq z) b1 h6W
                    have d4 := fun z => kept (hq z) m0 h9W
                    have d5 := fun z => kept (hq z) m1 h9W
                    have d6 := fun z => kept (hq z) m2 h10W
                    have d7 := fun z => kept (hq z) m3 h10W
                    simp only [pickI, Option.toList_some, List.cons_append, List.nil_append, List.getElem?_toArray, List.getElem?_cons_succ, List.getElem?_cons_zero]
                    try go_frame
                    go_big_quiet_step (fail)
                    go_big_quiet_step (fail)
                    refine wpQuiet_nil ?_
                    clear hq q d0 d1 d2 d3 d4 d5 d6 d7
                    go_wp2
                    go_ret
                    exact ⟨rfl, HBE.out.trans (zv3.mono HBE.out.size)⟩

theorem orderTells_walk {w : World} {A : Option Addr} {n c : Nat} {es : List En} (h : Ents w A n c es) (x1 y1 : Int) (h1 : (Lit.int .u64 x1).wf = true) (h2 : (Lit.int .u64 y1).wf = true) (x2 y2 : Int) (h3 : (Lit.int .u64 x2).wf = true) (h4 : (Lit.int .u64 y2).wf = true) (i : Im) (hi : i.ok) (hT : Tab w) :
    Calls Tryd.prog 3 #[.slice A n c, .agg #[.int .u64 x1, .int .u64 y1], .agg #[.int .u64 x2, .int .u64 y2], imv i] w fun r w' => r = .returned (.bool true) ∧ Below w.heap.size w w' := by
  obtain ⟨a, rfl, ha⟩ := wf_u64 h1
  obtain ⟨b, rfl, hb⟩ := wf_u64 h2
  obtain ⟨c', rfl, hc⟩ := wf_u64 h3
  obtain ⟨d, rfl, hd⟩ := wf_u64 h4
  exact orderTells_at h a b c' d ha hb hc hd i hi hi.1 hi.2.1 hT
namespace orderTells
open Go.ChangeShapes Go.WideShapes Go.ChangeAt
set_option maxRecDepth 100000 in
theorem lifted (os : Os) (started : os.Started) (H : Type) (enc : TypeId × Value → H) :
    ReturnsInHanded {} Tryd.checked os 3 .any (fun w args => (Rows.orderTellsSpec.pre enc Tryd.prog Tryd.f3 [] false w args ∧ laidMetH Tryd.prog laidL w) ∧ sizedMet enc Tryd.prog Tryd.f3 (OpenSpec.ofChange Rows.orderTellsSpec) false w args)
      (Rows.orderTellsSpec.post enc Tryd.prog Tryd.f3 false true false false) := by
  refine returnsInHanded_of_change_and (C := Tryd.checked) (X := fun w _ => laidMetH Tryd.prog laidL w) (fun _ _ _ hh h => h.of_heap hh) own started (by kernel_rfl) Tryd.func3
    (ChangeSpec.witness_shaped (enc := enc) (C := Tryd.checked) (os := os) (X := fun w _ => laidMetH Tryd.prog laidL w) false (World.doorLaid Tryd.prog 400 os) #[.slice none 0 0, .agg #[.int .u64 0, .int .u64 0], .agg #[.int .u64 0, .int .u64 0], .agg #[.int .u64 0, .int .u64 0, .string ⟨#[]⟩, .int .u64 0, .int .u16 0, .int .u64 0, .int .u16 0, .int .u64 0, .int .u16 0, .int .u64 0, .int .u16 0, .int .u64 0, .int .u16 0, .int .u64 0, .int .u16 0, .int .u64 0, .int .u16 0, .int .u64 0, .int .u16 0]] 8 rfl (World.shaped_of_RefB (by kernel_rfl) (by kernel_rfl)) (by kernel_rfl) (by kernel_rfl) (by kernel_rfl) (door_met os _)) ?_
  intro W base args ds gs before hval0 hW _ _ hL _
  have hval : ∀ (j : Nat) t v, Tryd.f3.params[j]? = some t → args[j]? = some v → Value.okWide Tryd.prog W .any base t v := hval0
  have hW' := hW
  obtain ⟨p, q, hA0, hV, rfl, hfz, hnd⟩ := hW
  have hA : DataW.TrodAll enc Tryd.prog W 0 (fun _ => true) true Tryd.f3.params.toList args.toList ds p := hA0
  rw [Tryd.params3] at hA hval
  obtain ⟨v0, vs0, d0, ds0, p0, q0, hargs, rfl, rfl, h0, r0⟩ := trodAll_cons hA
  obtain ⟨v1, vs1, d1, ds1, p1, q1, rfl, rfl, rfl, h1, r1⟩ := trodAll_cons r0
  obtain ⟨v2, vs2, d2, ds2, p2, q2, rfl, rfl, rfl, h2, r2⟩ := trodAll_cons r1
  obtain ⟨v3, vs3, d3, ds3, p3, q3, rfl, rfl, rfl, h3, r3⟩ := trodAll_cons r2
  obtain ⟨rfl, rfl, rfl⟩ := trodAll_nil r3
  obtain rfl : args = #[v0, v1, v2, v3] := by cases args; simp_all
  obtain ⟨rfl, rfl⟩ := trodVars_none hV
  have k0 := h0
  have lt0 : ∀ x ∈ p0, x.block < W.heap.size := by obtain ⟨m, hm⟩ := k0; exact DataW.trod_lt m _ _ _ hm
  obtain ⟨a0, n0, c0, l0, rfl, w0⟩ := dec_entries Tryd.underlying22 entryT (hval 0 22 v0 rfl rfl) h0
  have k1 := h1
  have lt1 : ∀ x ∈ p1, x.block < W.heap.size := by obtain ⟨m, hm⟩ := k1; exact DataW.trod_lt m _ _ _ hm
  obtain ⟨x1, y1, rfl, w1, u1⟩ := dec_ints2 Tryd.underlying25 (by kernel_rfl) (by kernel_rfl) Tryd.underlying23 Tryd.underlying23 (hval 1 25 v1 rfl rfl) h1
  have k2 := h2
  have lt2 : ∀ x ∈ p2, x.block < W.heap.size := by obtain ⟨m, hm⟩ := k2; exact DataW.trod_lt m _ _ _ hm
  obtain ⟨x2, y2, rfl, w2, u2⟩ := dec_ints2 Tryd.underlying25 (by kernel_rfl) (by kernel_rfl) Tryd.underlying23 Tryd.underlying23 (hval 2 25 v2 rfl rfl) h2
  have k3 := h3
  have lt3 : ∀ x ∈ p3, x.block < W.heap.size := by obtain ⟨m, hm⟩ := k3; exact DataW.trod_lt m _ _ _ hm
  obtain ⟨o3, rfl, w3⟩ := dec_image imA (by kernel_rfl) (by kernel_rfl) (by kernel_rfl) (by kernel_rfl) cl_one marks_one image_str (hval 3 32 v3 rfl rfl) h3
  clear hA0 hval0
  have hT := of_laid hL
  refine (orderTells_walk w0 x1 y1 w1 u1 x2 y2 w2 u2 o3 w3 hT).mono fun e W' ⟨he, bel⟩ => ?_
  subst he
  exact ⟨_, rfl, _, _, _, [], _, [], hW', trodAll_mk1 (shut_bool Tryd.underlying4 _), (trodAll_cons_mk (Below.trod laidOut (by kernel_rfl) (of_decide_eq_true (by kernel_rfl)) k0 bel lt0) (trodAll_cons_mk (Below.trod laidOut (by kernel_rfl) (of_decide_eq_true (by kernel_rfl)) k1 bel lt1) (trodAll_cons_mk (Below.trod laidOut (by kernel_rfl) (of_decide_eq_true (by kernel_rfl)) k2 bel lt2) (trodAll_cons_mk (Below.trod laidOut (by kernel_rfl) (of_decide_eq_true (by kernel_rfl)) k3 bel lt3) trodAll_mk0)))), rfl, bel.frame _, fun h => by cases h⟩

theorem over : Rows.orderTellsRow.holds Tryd.pinned (OpenSpec.ofChange Rows.orderTellsSpec) :=
  OpenClaim.holds_of_wide 3 Tryd.f3 rfl rfl rfl rfl rfl rfl rfl ⟨rfl, rfl, rfl, rfl, rfl⟩ rfl rfl rfl rfl rfl (by kernel_rfl) Tryd.func3 (by kernel_rfl)
    (of_decide_eq_true (by kernel_rfl)) (by unfold Func.isWrapper; first | (rw [if_pos (by decide +kernel)]; kernel_rfl) | (rw [if_neg (by decide +kernel)]; exact ⟨rfl, rfl⟩))
    (fun os started H enc _ => lifted os started H enc)
theorem row_tie : Rows.orderTellsRow.laidByTextAt .later Tryd.pinned [.data] true := orderTells_row_tie
/-- The given statement: the card. -/
theorem proved : Rows.OrderTellsCardSaid :=
  Claim7.holds_tied_plain_at .later [] [.data] true Rows.orderTellsCard.stood.harness false
    over (fun _ h => by cases h) (by kernel_rfl) (fun _ h => by cases h) row_tie rfl ⟨rfl, rfl⟩ (by kernel_rfl) rfl
    (fun f fn hf hfn => by
      obtain rfl : f = 3 := Option.some.inj ((show Tryd.prog.funcNamed Rows.orderTellsRow.func = some 3 by kernel_rfl).symm.trans hf) |>.symm
      obtain rfl : fn = Tryd.f3 := (Option.some.inj (Tryd.func3.symm.trans hfn)).symm
      exact ⟨by kernel_rfl, fun j t ht => by
        rw [Tryd.params3] at ht
        have hm : t ∈ [22, 25, 25, 32] := by simpa using Array.mem_of_getElem? ht
        have hall : ([22, 25, 25, 32].all fun u => !Tryd.prog.wantsStandIn u) = true := by kernel_rfl
        exact (show Tryd.prog.wantsStandIn t = false by simpa using List.all_eq_true.1 hall t hm)⟩)
    (by kernel_rfl)
end orderTells

end Go.Proofs.YtgejmeankppmhaaDoor
