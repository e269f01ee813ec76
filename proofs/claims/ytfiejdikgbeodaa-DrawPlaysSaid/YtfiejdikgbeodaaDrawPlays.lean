/- DrawPlays: whatever is drawn of any bytes is the document's, and a clone takes nothing from it: the law answers true for all bytes and calls. -/
import Derived.Test.YtfiejdikgbeodaaDlives
import Derived.Test.YtfiejdikgbeodaaRowkitb
import Derived.Test.YtfiejdikgbeodaaSegs
import Derived.Deep.DeepCutAuto
import Derived.Deep.CutBlock
namespace Go.Proofs.Ytfiejdikgbeodaa
open Go.RowKit

theorem drawPlays_early (A A2 : Option Addr) (n c n2 c2 : Nat) (w : World) (hbig : 1000 < n ∨ 60 < n2) :
    Calls Try.prog 7 #[.slice A n c, .slice A2 n2 c2] w fun e w' => e = .returned (.bool true) ∧ Below w.heap.size w w' := by
  by_cases h1 : 1000 < n
  · have d1 : decide (1000 < n) = true := by simpa using h1
    go_enter Try.func7, Try.ntmps7
    go_wp2_with (go_at_call 21; refine (dlives _).mono ?_; rintro e w6 ⟨rfl, hb6⟩)
    go_ret
    exact ⟨rfl, hb6⟩
  · have d1 : decide (1000 < n) = false := by simpa using h1
    have d2 : decide (60 < n2) = true := by simp; omega
    go_enter Try.func7, Try.ntmps7
    go_wp2_with (go_at_call 21; refine (dlives _).mono ?_; rintro e w6 ⟨rfl, hb6⟩)
    go_ret
    exact ⟨rfl, hb6⟩

/-- Both have the same left. -/
def Pair (w wr : World) (g g2 : Nat) : Prop := ∃ r : List UInt8, r.length ≤ 1000 ∧ Sr g 61 wr (some ⟨g, 0, none⟩) r ∧ Sr w.heap.size 48 wr (some ⟨g2, 0, none⟩) r ∧ Below w.heap.size w wr
theorem Pair.drewN {w wr : World} {g g2 : Nat} (h : Pair w wr g g2) (k : Nat) : Pair w (wr.drewN k) g g2 := by
  obtain ⟨r, h1, h2, h3, h4⟩ := h
  exact ⟨r, h1, h2, h3, ⟨h4.os, h4.tape, h4.output, h4.size, h4.block⟩⟩
/-- The law's world behind what turns one block. -/
theorem sr_by {B : Nat} {T : TypeId} {w w' : World} {g k : Nat} {l : List UInt8} (h : Sr B T w (some ⟨g, 0, none⟩) l) (hg : w.grownBy w' (some k)) (hne : k ≠ g) (hB : B ≤ k) : Sr B T w' (some ⟨g, 0, none⟩) l :=
  h.apart hg fun r hr G hG => by
    obtain rfl : k = r := Option.some.inj hr
    obtain rfl : g = G := Option.some.inj hG
    exact ⟨hne, hB⟩
theorem pair_next {w wd w2 w3 : World} {g g2 : Nat} {r : List UInt8} (hb : Below w.heap.size w wd) (hg : w.heap.size ≤ g) (hlt : g < g2) (hl : r.length ≤ 1000) (hS : Sr g 61 w2 (some ⟨g, 0, none⟩) r) (h2 : wd.grownBy w2 (some g)) (h3 : w2.grownBy w3 (some g2))
    (hR : Sr w.heap.size 48 w3 (some ⟨g2, 0, none⟩) r) : Pair w w3 g g2 :=
  ⟨r, hl, sr_by hS h3 (by omega) (by omega), hR, (hb.grown h2 hb.size (fun j e => by obtain rfl : g = j := Option.some.inj e; exact hg)).grown h3 (Nat.le_trans hb.size h2.size) (fun j e => by obtain rfl : g2 = j := Option.some.inj e; omega)⟩
theorem cell_by {w w' : World} {k p g : Nat} {v : Value} (hg : w.grownBy w' (some g)) (hk : k < w.heap.size) (hne : g < k) (h : w.cell? ⟨k, p, none⟩ = some v) : w'.cell? ⟨k, p, none⟩ = some v :=
  (World.cell?_of_block (hg.block k hk (fun e => by have := Option.some.inj e; omega))).trans h
theorem q_left {P : Program} {f : FuncId} {args : Array Value} {w : World} {n : Nat} {v : Value} (h : Calls P f args (w.drewN n) fun e w' => e = .returned v ∧ w.drewN n = w') : Calls P f args (w.drewN n) fun e w'' => e = .returned v ∧ ∃ m, w'' = w.drewN m :=
  h.mono fun _ _ ⟨he, hm⟩ => ⟨he, n, hm.symm⟩
theorem below_drewN {B : Nat} {w w' : World} (h : Below B w w') (k : Nat) : Below B w (w'.drewN k) := ⟨h.os, h.tape, h.output, h.size, h.block⟩
/-- What is held of a world's memory is held of the memory that an earlier world had, as far as it goes. -/
theorem rd_back {w w2 : World} {B B2 sz n c : Nat} {A : Option Addr} {xs : List Value} (h : Rd w2 B2 sz A n c xs) (h0 : Rd w B sz A n c xs) : Rd w2 B sz A n c xs := by
  obtain ⟨a1, a2, a3, a4⟩ := h
  obtain ⟨_, _, _, b4⟩ := h0
  refine ⟨a1, a2, a3, fun hn => ?_⟩
  obtain ⟨b, o, rfl, _, hc⟩ := a4 hn
  obtain ⟨b', o', e, hl, _⟩ := b4 hn
  cases e
  exact ⟨_, _, rfl, hl, hc⟩
theorem sr_drew {B : Nat} {T : TypeId} {w : World} {p : Option Addr} {l : List UInt8} (h : Sr B T w p l) : Sr B T w.drew p l := h
theorem cell_drew {w : World} {p : Addr} {v : Value} (h : w.cell? p = some v) : w.drew.cell? p = some v := h
theorem drop_len (r : List UInt8) (k : Nat) (h : r.length ≤ 1000) : (r.drop k).length ≤ 1000 := by rw [List.length_drop]; omega

set_option maxHeartbeats 4000000 in
set_option maxRecDepth 8000 in
theorem drawPlays_late (A A2 : Option Addr) (n c n2 c2 : Nat) (l : List UInt8) (ps : List (Int × Int)) (w : World) (h : Rd w w.heap.size 1 A n c (u8s l)) (h2 : Rd w w.heap.size 2 A2 n2 c2 (pairs ps)) (hps : ps.length = n2) (hwf : Hid (∀ p ∈ ps, (Lit.int .i64 p.2).wf = true)) (hn : n ≤ 1000) (hn2 : n2 ≤ 60) :
    Calls Try.prog 7 #[.slice A n c, .slice A2 n2 c2] w fun e w' => e = .returned (.bool true) ∧ Below w.heap.size w w' := by
  obtain rfl : l.length = n := by have := h.len; rwa [u8s_len] at this
  have d1 : decide (1000 < l.length) = false := by simp; omega
  have d2 : decide (60 < n2) = false := by simp; omega
  have HPS := Lib.hid hps
  clear hps
  go_enter Try.func7, Try.ntmps7
  go_wp2_with (go_at_call 22; refine (new_of _ _ _ l h (by omega)).mono ?_; rintro e w1 ⟨g, rfl, hg, hS, hb1⟩; have hz1 := hb1.size; have hgl := hS.lt g rfl)
  go_loopw [29] (fun ir wr => ∃ i : Nat, i ≤ n2 ∧ ir = .int .i64 i ∧ Pair w wr g w1.heap.size) (fun ir _ => n2 - (intOf ir).toNat)
  case atStart =>
    exact ⟨0, Nat.zero_le _, rfl, l, hn, hS.far (World.grownBy_alloc _ _ none) (fun r hr => by cases hr), .inr ⟨_, A, l.length, c, rfl, hz1, heap_alloc_new w1 _, (h.below hb1).below ((Below.refl _ _).alloc hz1 _)⟩, hb1.alloc hz1 _⟩
  case round =>
    obtain ⟨i, hi, rfl, r, hrl, hS, hF, hb⟩ := hrel
    by_cases hlt : i < n2
    · obtain ⟨⟨kd, nn⟩, hp⟩ : ∃ p, ps[i]? = some p := ⟨_, List.getElem?_eq_getElem (by rw [HPS.out]; exact hlt)⟩
      have hnn := Lib.hid (hwf.out _ (List.mem_of_getElem? hp))
      have hpg := pairs_get ps i (kd, nn) hp
      obtain ⟨bb, o, rfl, hbl, hcell⟩ := (h2.below hb).2.2.2 (by omega)
      have c0 : wr.cell? ⟨bb, o + i * 2, none⟩ = some (.int .i64 kd) := hcell _ _ hpg.1
      have c1 : wr.cell? ⟨bb, o + i * 2 + 1, none⟩ = some (.int .i64 nn) := by rw [Nat.add_assoc]; exact hcell _ _ hpg.2
      have HP := Lib.hid hp
      clear hp hpg hcell
      have hS := Lib.hid hS
      have hF := Lib.hid hF
      by_cases h200 : 200 < nn
      · have t200 : decide (200 < nn) = true := by simpa using h200
        by_cases hk1 : 1 < kd
        · have tk1 : decide (1 < kd) = true := by simpa using hk1
          go_wp2_with (go_at_call 21; refine (dlives _).mono ?_; rintro e w3 ⟨rfl, hb3⟩)
          go_ret
          have hbw := hb.alloc hb.size (.cells #[.int .i64 kd, .int .i64 nn] 50)
          exact ⟨rfl, hbw.trans (hb3.mono hbw.size)⟩
        · have tk1 : decide (1 < kd) = false := by simpa using hk1
          go_upto_block 2 with (fail)
          go_cut [9] (fun gv wx => gv = .bool true ∧ Pair w wx g w1.heap.size)
          case first =>
            have hzr : w.heap.size ≤ wr.heap.size := hb.size
            have hgo : wr.grownBy (wr.alloc (.cells #[.int .i64 kd, .int .i64 nn] 50)) none := World.grownBy_alloc _ _ none
            have HR := Lib.hid (hS.out.far hgo (fun r hr => by cases hr))
            have HF' := Lib.hid (hF.out.far hgo (fun r hr => by cases hr))
            have HB := Lib.hid (hb.alloc hzr (.cells #[.int .i64 kd, .int .i64 nn] 50))
            have CO := Lib.hid (cell_drew (cell_of_row _ wr.heap.size 1 _ _ _ (heap_alloc_new wr (.cells #[.int .i64 kd, .int .i64 nn] 50))))
            have HO := Lib.hid hgo
            have HS := Lib.hid (show wr.heap.size < (wr.alloc (.cells #[.int .i64 kd, .int .i64 nn] 50)).drew.heap.size from by show _ < (wr.heap.push _).size; simp )
            have HG := Lib.hid (show g < wr.heap.size from hS.out.lt g rfl)
            have HG2 := Lib.hid (show w1.heap.size < wr.heap.size from hF.out.lt _ rfl)
            clear hzr hgo c0 c1
            by_cases k0 : kd = 0
            · have e0 : (kd == 0) = true := by simpa using k0
              clear k0
              have hr0 : r.tail.length ≤ 1000 := by rw [List.length_tail]; omega
              have hBy := byte_of HR.out
              have hY : ∀ w2, Sr w.heap.size 48 w2 (some ⟨w1.heap.size, 0, none⟩) r → _ := fun w2 h => rbyte_of (w := w2) h
              obtain ⟨y, hy⟩ : ∃ y : Nat, y = hd r := ⟨_, rfl⟩
              rw [← hy] at hBy hY
              have q0 : ((y : Int) == (y : Int)) = true := beq_self_eq_true _
              have HBy := Lib.hid hBy
              have HY := Lib.hid hY
              clear hBy hY hy
              go_wp2_with (first
                | (go_at_call 23; refine HBy.out.mono ?_; rintro e w2 ⟨rfl, hS2, hg2⟩
                   have hF2 := sr_by (HF'.out) hg2 (Nat.ne_of_lt hgl) hg)
                | (go_at_call 24; refine (HY.out _ hF2).mono ?_; rintro e w3 ⟨rfl, hF3, hg3⟩)
                | fail)
              go_meet
              case rel => exact ⟨rfl, pair_next HB.out hg hgl hr0 hS2 hg2 hg3 hF3⟩
            · have e0 : (kd == 0) = false := by simpa using k0
              by_cases k1 : kd = 1
              · have e1 : (kd == 1) = true := by simpa using k1
                clear k0 k1
                go_wp2_with (fail)
                refine wp_segs [([0, 1, 2, 4, 5, 6], 3), ([], 7)] [8, 9] (fun x => x.cell? ⟨wr.heap.size, 1, none⟩ = some (.int .i64 nn)) (by kernel_rfl) (by kernel_rfl) (fun d _ _ _ _ h => by cases d <;> exact h) CO.out ?_
                intro f hf
                have F1 : ∀ z, (f z).cell? ⟨wr.heap.size, 1, none⟩ = some (.int .i64 nn) := hf
                simp only [pickI, Option.toList_some, List.cons_append, List.nil_append, List.getElem?_toArray, List.getElem?_cons_succ, List.getElem?_cons_zero]
                repeat (go_big_quiet_step (fail))
                refine wpQuiet_nil ?_
                clear F1 hf f
                refine seg_op (by simp only [List.getElem?_toArray, List.getElem?_cons_succ, List.getElem?_cons_zero]; rfl) fun K hK => ?_
                go_simp
                refine (num_of nn hnn.out (sr_drew HR.out)).mono ?_
                rintro e w2 ⟨rfl, hS2, hg2⟩
                have hF2 := sr_by (sr_drew HF'.out) hg2 (Nat.ne_of_lt hgl) hg
                have CO2 := cell_by hg2 HS.out HG.out CO.out
                refine hK.out _ _ ⟨_, CO2, fun _ h => h, ?_⟩
                clear hK K
                intro f hf
                refine wpQuiet_nil ?_
                clear hf f
                refine seg_op (by simp only [List.getElem?_toArray, List.getElem?_cons_succ, List.getElem?_cons_zero]; rfl) fun K hK => ?_
                go_simp
                refine (rnum_of nn hnn.out hF2).mono ?_
                rintro e w3 ⟨rfl, hF3, hg3⟩
                have CO3 := cell_by hg3 (Nat.lt_of_lt_of_le HS.out hg2.size) HG2.out CO2
                have HN := Lib.hid (pair_next HB.out.drew hg hgl (drop_len r _ hrl) hS2 hg2 hg3 hF3)
                clear hS2 hg2 hF2 CO2 hF3 hg3
                generalize numOf nn r = m
                have qm : ((m : Int) == (m : Int)) = true := beq_self_eq_true _
                refine hK.out _ _ ⟨_, CO3, fun _ h => h, ?_⟩
                clear hK K
                intro f hf
                simp only [pickI, Option.toList_some, List.cons_append, List.nil_append, List.getElem?_toArray, List.getElem?_cons_succ, List.getElem?_cons_zero]
                repeat (go_big_quiet_step (fail))
                refine wpQuiet_nil ?_
                clear hf f
                go_wp2_with (fail)
                go_meet
                case rel => exact ⟨rfl, HN.out⟩
              · have e1 : (kd == 1) = false := by simpa using k1
                have e2 : (kd == 2) = false := by simp; omega
                have e3 : (kd == 3) = false := by simp; omega
                have e4 : (kd == 4) = false := by simp; omega
                have e5 : (kd == 5) = false := by simp; omega
                clear k0 k1
                go_wp2_with (first
                  | (go_at_call 34; refine (clone_of HR.out (by omega)).mono ?_; rintro e w2 ⟨g', rfl, hg', hS2, hb2⟩)
                  | (go_at_call 27; refine (bytes_of 200 hS2).mono ?_; rintro e w3 ⟨v3, rfl, hown3, hS3, hg3⟩)
                  | fail)
                go_meet
                case rel =>
                  have hzz := HB.out.size
                  refine ⟨rfl, r, hrl, ?_, ?_, ?_⟩
                  · exact (HR.out.below hb2).far hg3 (fun k hk G hG => by obtain rfl : g' = k := Option.some.inj hk; obtain rfl : g = G := Option.some.inj hG; have := HG.out; simp at hg'; omega)
                  · exact (HF'.out.below hb2).far hg3 (fun k hk G hG => by obtain rfl : g' = k := Option.some.inj hk; obtain rfl : w1.heap.size = G := Option.some.inj hG; have := HG2.out; simp at hg'; omega)
                  · exact (HB.out.trans (hb2.mono hzz)).grown hg3 (Nat.le_trans hzz hb2.size) (fun k hk => by obtain rfl : g' = k := Option.some.inj hk; omega)
          case rest =>
            obtain ⟨rfl, r', hrl', hS', hF', hb'⟩ := hcut
            clear HP c0 c1 hS hF
            obtain ⟨L, hL⟩ : ∃ L : Nat, r'.length = L := ⟨_, rfl⟩
            have cL := left_of hS'
            have cM := rleft_of hF'
            rw [hL] at cL cM
            have HR := Lib.hid hS'
            have HF := Lib.hid hF'
            have HB := Lib.hid hb'
            have HCL := Lib.hid cL
            have HCM := Lib.hid cM
            have HLL := Lib.hid hL
            clear hS' hF' hb' cL cM hL
            have qL : ((L : Int) != (L : Int)) = false := bne_self_eq_false _
            go_wp2_with (first
              | (go_at_call 35; refine HCL.out.mono ?_; rintro e w2 ⟨rfl, rfl⟩)
              | (go_at_call 36; refine HCM.out.mono ?_; rintro e w2 ⟨rfl, rfl⟩)
              | fail)
            exact ⟨⟨i + 1, hlt, rfl, r', hrl', HR.out, HF.out, HB.out⟩, by simp only [intOf]; omega⟩
      · have t200 : decide (200 < nn) = false := by simpa using h200
        go_upto_block 2 with (fail)
        go_cut [9] (fun gv wx => gv = .bool true ∧ Pair w wx g w1.heap.size)
        case first =>
          have hzr : w.heap.size ≤ wr.heap.size := hb.size
          have hgo : wr.grownBy (wr.alloc (.cells #[.int .i64 kd, .int .i64 nn] 50)) none := World.grownBy_alloc _ _ none
          have HR := Lib.hid (hS.out.far hgo (fun r hr => by cases hr))
          have HF' := Lib.hid (hF.out.far hgo (fun r hr => by cases hr))
          have HB := Lib.hid (hb.alloc hzr (.cells #[.int .i64 kd, .int .i64 nn] 50))
          have CO := Lib.hid (cell_drew (cell_of_row _ wr.heap.size 1 _ _ _ (heap_alloc_new wr (.cells #[.int .i64 kd, .int .i64 nn] 50))))
          have HO := Lib.hid hgo
          have HS := Lib.hid (show wr.heap.size < (wr.alloc (.cells #[.int .i64 kd, .int .i64 nn] 50)).drew.heap.size from by show _ < (wr.heap.push _).size; simp )
          have HG := Lib.hid (show g < wr.heap.size from hS.out.lt g rfl)
          have HG2 := Lib.hid (show w1.heap.size < wr.heap.size from hF.out.lt _ rfl)
          clear hzr hgo c0 c1
          by_cases k0 : kd = 0
          · have e0 : (kd == 0) = true := by simpa using k0
            clear k0
            have hr0 : r.tail.length ≤ 1000 := by rw [List.length_tail]; omega
            have hBy := byte_of HR.out
            have hY : ∀ w2, Sr w.heap.size 48 w2 (some ⟨w1.heap.size, 0, none⟩) r → _ := fun w2 h => rbyte_of (w := w2) h
            obtain ⟨y, hy⟩ : ∃ y : Nat, y = hd r := ⟨_, rfl⟩
            rw [← hy] at hBy hY
            have q0 : ((y : Int) == (y : Int)) = true := beq_self_eq_true _
            have HBy := Lib.hid hBy
            have HY := Lib.hid hY
            clear hBy hY hy
            go_wp2_with (first
              | (go_at_call 23; refine HBy.out.mono ?_; rintro e w2 ⟨rfl, hS2, hg2⟩
                 have hF2 := sr_by (HF'.out) hg2 (Nat.ne_of_lt hgl) hg)
              | (go_at_call 24; refine (HY.out _ hF2).mono ?_; rintro e w3 ⟨rfl, hF3, hg3⟩)
              | fail)
            go_meet
            case rel => exact ⟨rfl, pair_next HB.out hg hgl hr0 hS2 hg2 hg3 hF3⟩
          · have e0 : (kd == 0) = false := by simpa using k0
            by_cases k1 : kd = 1
            · have e1 : (kd == 1) = true := by simpa using k1
              clear k0 k1
              go_wp2_with (fail)
              refine wp_segs [([0, 1, 2, 4, 5, 6], 3), ([], 7)] [8, 9] (fun x => x.cell? ⟨wr.heap.size, 1, none⟩ = some (.int .i64 nn)) (by kernel_rfl) (by kernel_rfl) (fun d _ _ _ _ h => by cases d <;> exact h) CO.out ?_
              intro f hf
              have F1 : ∀ z, (f z).cell? ⟨wr.heap.size, 1, none⟩ = some (.int .i64 nn) := hf
              simp only [pickI, Option.toList_some, List.cons_append, List.nil_append, List.getElem?_toArray, List.getElem?_cons_succ, List.getElem?_cons_zero]
              repeat (go_big_quiet_step (fail))
              refine wpQuiet_nil ?_
              clear F1 hf f
              refine seg_op (by simp only [List.getElem?_toArray, List.getElem?_cons_succ, List.getElem?_cons_zero]; rfl) fun K hK => ?_
              go_simp
              refine (num_of nn hnn.out (sr_drew HR.out)).mono ?_
              rintro e w2 ⟨rfl, hS2, hg2⟩
              have hF2 := sr_by (sr_drew HF'.out) hg2 (Nat.ne_of_lt hgl) hg
              have CO2 := cell_by hg2 HS.out HG.out CO.out
              refine hK.out _ _ ⟨_, CO2, fun _ h => h, ?_⟩
              clear hK K
              intro f hf
              refine wpQuiet_nil ?_
              clear hf f
              refine seg_op (by simp only [List.getElem?_toArray, List.getElem?_cons_succ, List.getElem?_cons_zero]; rfl) fun K hK => ?_
              go_simp
              refine (rnum_of nn hnn.out hF2).mono ?_
              rintro e w3 ⟨rfl, hF3, hg3⟩
              have CO3 := cell_by hg3 (Nat.lt_of_lt_of_le HS.out hg2.size) HG2.out CO2
              have HN := Lib.hid (pair_next HB.out.drew hg hgl (drop_len r _ hrl) hS2 hg2 hg3 hF3)
              clear hS2 hg2 hF2 CO2 hF3 hg3
              generalize numOf nn r = m
              have qm : ((m : Int) == (m : Int)) = true := beq_self_eq_true _
              refine hK.out _ _ ⟨_, CO3, fun _ h => h, ?_⟩
              clear hK K
              intro f hf
              simp only [pickI, Option.toList_some, List.cons_append, List.nil_append, List.getElem?_toArray, List.getElem?_cons_succ, List.getElem?_cons_zero]
              repeat (go_big_quiet_step (fail))
              refine wpQuiet_nil ?_
              clear hf f
              go_wp2_with (fail)
              go_meet
              case rel => exact ⟨rfl, HN.out⟩
            · have e1 : (kd == 1) = false := by simpa using k1
              by_cases k2 : kd = 2
              · have e2 : (kd == 2) = true := by simpa using k2
                clear k0 k1 k2
                go_wp2_with (fail)
                refine wp_segs [([0, 1, 2, 5, 6, 7], 3), ([4], 8)] [9, 10, 11] (fun x => x.cell? ⟨wr.heap.size, 1, none⟩ = some (.int .i64 nn)) (by kernel_rfl) (by kernel_rfl) (fun d _ _ _ _ h => by cases d <;> exact h) CO.out ?_
                intro f hf
                have F1 : ∀ z, (f z).cell? ⟨wr.heap.size, 1, none⟩ = some (.int .i64 nn) := hf
                simp only [pickI, Option.toList_some, List.cons_append, List.nil_append, List.getElem?_toArray, List.getElem?_cons_succ, List.getElem?_cons_zero]
                repeat (go_big_quiet_step (fail))
                refine wpQuiet_nil ?_
                clear F1 hf f
                refine seg_op (by simp only [List.getElem?_toArray, List.getElem?_cons_succ, List.getElem?_cons_zero]; rfl) fun K hK => ?_
                go_simp
                refine (bytes_of nn (sr_drew HR.out)).mono ?_
                rintro e w2 ⟨v2, rfl, hown2, hS2, hg2⟩
                obtain ⟨A3, c3, rfl⟩ := ownsRow_form hown2
                have hrt := ownsRow_rd hown2
                have hF2 := sr_by (sr_drew HF'.out) hg2 (Nat.ne_of_lt hgl) hg
                have CO2 := cell_by hg2 HS.out HG.out CO.out
                generalize ht : bytesL (cap nn) r = t at *
                refine hK.out _ _ ⟨fun x => x.cell? ⟨wr.heap.size, 1, none⟩ = some (.int .i64 nn) ∧ Rd x w2.heap.size 1 A3 (cap nn) c3 (u8s t), ⟨CO2, hrt⟩, fun _ h => h.1, ?_⟩
                clear hK K
                intro f hf
                have F1 := fun z => run_str (P := Try.prog) Try.underlying23 Try.underlying5 Try.underlying9 (hf z).2
                simp only [pickI, Option.toList_some, List.cons_append, List.nil_append, List.getElem?_toArray, List.getElem?_cons_succ, List.getElem?_cons_zero]
                repeat (go_big_quiet_step (fail))
                refine wpQuiet_nil ?_
                clear F1 hf f
                refine seg_op (by simp only [List.getElem?_toArray, List.getElem?_cons_succ, List.getElem?_cons_zero]; rfl) fun K hK => ?_
                go_simp
                refine (rbytes_of nn hF2).mono ?_
                rintro e w3 ⟨v3, rfl, hown3, hF3, hg3⟩
                rw [ht] at hown3
                obtain ⟨A4, c4, rfl⟩ := ownsRow_form hown3
                have hr3 := ownsRow_rd hown3
                have CO3 := cell_by hg3 (Nat.lt_of_lt_of_le HS.out hg2.size) HG2.out CO2
                have hf3 := ownsRow_far hown2 hg3 (fun k hk e => by have := (hown2.lt k hk).1; have := HG2.out; have := HS.out; omega)
                have HN := Lib.hid (pair_next HB.out.drew hg hgl (drop_len r _ hrl) hS2 hg2 hg3 hF3)
                clear hS2 hg2 hF2 CO2 hF3 hg3
                have qt : ((str t).toList == (str t).toList) = true := beq_self_eq_true _
                refine hK.out _ _ ⟨fun x => x.cell? ⟨wr.heap.size, 1, none⟩ = some (.int .i64 nn) ∧ Rd x w2.heap.size 1 A3 (cap nn) c3 (u8s t) ∧ Rd x w3.heap.size 1 A4 (cap nn) c4 (u8s t), ⟨CO3, rd_back hf3 hrt, hr3⟩, fun _ h => ⟨h.1, h.2.1⟩, ?_⟩
                clear hK K
                intro f hf
                have F1 := fun z => run_str (P := Try.prog) Try.underlying23 Try.underlying5 Try.underlying9 (hf z).2.2
                simp only [pickI, Option.toList_some, List.cons_append, List.nil_append, List.getElem?_toArray, List.getElem?_cons_succ, List.getElem?_cons_zero]
                repeat (go_big_quiet_step (fail))
                refine wpQuiet_nil ?_
                clear F1 hf f
                go_wp2_with (fail)
                go_meet
                case rel => exact ⟨rfl, HN.out⟩
              · have e2 : (kd == 2) = false := by simpa using k2
                by_cases k3 : kd = 3
                · have e3 : (kd == 3) = true := by simpa using k3
                  clear k0 k1 k2 k3
                  go_wp2_with (fail)
                  refine wp_segs [([0, 1, 2, 4, 5, 6], 3), ([], 7)] [8, 9] (fun x => x.cell? ⟨wr.heap.size, 1, none⟩ = some (.int .i64 nn)) (by kernel_rfl) (by kernel_rfl) (fun d _ _ _ _ h => by cases d <;> exact h) CO.out ?_
                  intro f hf
                  have F1 : ∀ z, (f z).cell? ⟨wr.heap.size, 1, none⟩ = some (.int .i64 nn) := hf
                  simp only [pickI, Option.toList_some, List.cons_append, List.nil_append, List.getElem?_toArray, List.getElem?_cons_succ, List.getElem?_cons_zero]
                  repeat (go_big_quiet_step (fail))
                  refine wpQuiet_nil ?_
                  clear F1 hf f
                  refine seg_op (by simp only [List.getElem?_toArray, List.getElem?_cons_succ, List.getElem?_cons_zero]; rfl) fun K hK => ?_
                  go_simp
                  refine (text_of nn (sr_drew HR.out)).mono ?_
                  rintro e w2 ⟨rfl, hS2, hg2⟩
                  have hF2 := sr_by (sr_drew HF'.out) hg2 (Nat.ne_of_lt hgl) hg
                  have CO2 := cell_by hg2 HS.out HG.out CO.out
                  refine hK.out _ _ ⟨_, CO2, fun _ h => h, ?_⟩
                  clear hK K
                  intro f hf
                  refine wpQuiet_nil ?_
                  clear hf f
                  refine seg_op (by simp only [List.getElem?_toArray, List.getElem?_cons_succ, List.getElem?_cons_zero]; rfl) fun K hK => ?_
                  go_simp
                  refine (rtext_of nn hF2).mono ?_
                  rintro e w3 ⟨rfl, hF3, hg3⟩
                  have CO3 := cell_by hg3 (Nat.lt_of_lt_of_le HS.out hg2.size) HG2.out CO2
                  have HN := Lib.hid (pair_next HB.out.drew hg hgl (drop_len r _ hrl) hS2 hg2 hg3 hF3)
                  clear hS2 hg2 hF2 CO2 hF3 hg3
                  generalize textL (cap nn) r = t
                  have qt : ((str t).toList == (str t).toList) = true := beq_self_eq_true _
                  refine hK.out _ _ ⟨_, CO3, fun _ h => h, ?_⟩
                  clear hK K
                  intro f hf
                  simp only [pickI, Option.toList_some, List.cons_append, List.nil_append, List.getElem?_toArray, List.getElem?_cons_succ, List.getElem?_cons_zero]
                  repeat (go_big_quiet_step (fail))
                  refine wpQuiet_nil ?_
                  clear hf f
                  go_wp2_with (fail)
                  go_meet
                  case rel => exact ⟨rfl, HN.out⟩
                · have e3 : (kd == 3) = false := by simpa using k3
                  by_cases k4 : kd = 4
                  · have e4 : (kd == 4) = true := by simpa using k4
                    clear k0 k1 k2 k3 k4
                    go_wp2_with (fail)
                    refine wp_segs [([0, 1, 2, 4, 5, 6], 3), ([], 7)] [8, 9] (fun x => x.cell? ⟨wr.heap.size, 1, none⟩ = some (.int .i64 nn)) (by kernel_rfl) (by kernel_rfl) (fun d _ _ _ _ h => by cases d <;> exact h) CO.out ?_
                    intro f hf
                    have F1 : ∀ z, (f z).cell? ⟨wr.heap.size, 1, none⟩ = some (.int .i64 nn) := hf
                    simp only [pickI, Option.toList_some, List.cons_append, List.nil_append, List.getElem?_toArray, List.getElem?_cons_succ, List.getElem?_cons_zero]
                    repeat (go_big_quiet_step (fail))
                    refine wpQuiet_nil ?_
                    clear F1 hf f
                    refine seg_op (by simp only [List.getElem?_toArray, List.getElem?_cons_succ, List.getElem?_cons_zero]; rfl) fun K hK => ?_
                    go_simp
                    refine (nums_of' nn 7 (by decide) (sr_drew HR.out)).mono ?_
                    rintro e w2 ⟨v2, rfl, hown2, hS2, hg2⟩
                    obtain ⟨A3, c3, rfl⟩ := ownsRow_form hown2
                    have hrt := ownsRow_rd hown2
                    have hF2 := sr_by (sr_drew HF'.out) hg2 (Nat.ne_of_lt hgl) hg
                    have CO2 := cell_by hg2 HS.out HG.out CO.out
                    generalize ht : numsL 7 (cap nn) r = t at *
                    obtain ⟨q, hq⟩ : ∃ q, q = cap nn := ⟨_, rfl⟩
                    rw [← hq] at hown2 hrt ⊢
                    refine hK.out _ _ ⟨_, CO2, fun _ h => h, ?_⟩
                    clear hK K
                    intro f hf
                    refine wpQuiet_nil ?_
                    clear hf f
                    refine seg_op (by simp only [List.getElem?_toArray, List.getElem?_cons_succ, List.getElem?_cons_zero]; rfl) fun K hK => ?_
                    go_simp
                    refine (rnums_of nn 7 (by decide) hF2).mono ?_
                    rintro e w3 ⟨v3, rfl, hown3, hF3, hg3⟩
                    rw [ht, ← hq] at hown3
                    obtain ⟨A4, c4, rfl⟩ := ownsRow_form hown3
                    have hr3 := ownsRow_rd hown3
                    rw [← hq]
                    have CO3 := cell_by hg3 (Nat.lt_of_lt_of_le HS.out hg2.size) HG2.out CO2
                    have hf3 := ownsRow_far hown2 hg3 (fun k hk e => by have := (hown2.lt k hk).1; have := HG2.out; have := HS.out; omega)
                    have hHN := pair_next HB.out.drew hg hgl (drop_len r _ hrl) hS2 hg2 hg3 hF3
                    have hlen : t.length = q := by rw [← ht, hq, numsL_len]
                    have hq6 : q < 70000 := by rw [hq]; unfold cap; omega
                    have HQ := Lib.hid hq
                    have HLEN := Lib.hid hlen
                    clear hS2 hg2 hF2 CO2 hF3 hg3 hown2 hrt hown3 hq hlen ht
                    refine hK.out _ _ ⟨_, CO3, fun _ h => h, ?_⟩
                    clear hK K CO3
                    intro f hf
                    simp only [pickI, Option.toList_some, List.cons_append, List.nil_append, List.getElem?_toArray, List.getElem?_cons_succ, List.getElem?_cons_zero]
                    repeat (go_big_quiet_step (fail))
                    refine wpQuiet_nil ?_
                    clear hf f
                    have qq : ((q : Int) == (q : Int)) = true := beq_self_eq_true _
                    go_wp2_with (fail)
                    go_loopw [9, 109] (fun gv jr wx => ∃ j : Nat, j ≤ q ∧ jr = .int .i64 (j : Int) ∧ gv = .bool true ∧ Pair w wx g w1.heap.size ∧ Rd wx w3.heap.size 1 A3 q c3 (ints t) ∧ Rd wx w3.heap.size 1 A4 q c4 (ints t)) (fun _ jr _ => q - (intOf jr).toNat)
                    case atStart => exact ⟨0, Nat.zero_le _, rfl, rfl, hHN, hf3, hr3⟩
                    case round =>
                      obtain ⟨j, hj, rfl, rfl, hPx, hx3, hx4⟩ := hrel
                      by_cases hjq : j < q
                      · have hji : (j : Int) < (q : Int) := by omega
                        obtain ⟨b3, o3, u3, rfl, _, hu3, hc3⟩ := hx3.at_ hjq
                        obtain ⟨b4, o4, u4, rfl, _, hu4, hc4⟩ := hx4.at_ hjq
                        obtain rfl : u3 = u4 := Option.some.inj (hu3.symm.trans hu4)
                        obtain ⟨z, rfl⟩ : ∃ z : Int, u3 = .int .i64 z := by
                          rw [ints, List.getElem?_map] at hu3
                          cases hz : t[j]? with
                          | none => rw [hz] at hu3; cases hu3
                          | some z => rw [hz] at hu3; exact ⟨_, (Option.some.inj hu3).symm⟩
                        have qz : (z == z) = true := beq_self_eq_true _
                        have HPx := Lib.hid hPx
                        have HX3 := Lib.hid hx3
                        have HX4 := Lib.hid hx4
                        clear hPx hx3 hx4 hu3 hu4
                        go_wp2_with (fail)
                        go_quiet (fail)
                        go_wp2_with (fail)
                        go_roundw
                        case rel => exact ⟨j + 1, by omega, by go_num, rfl, HPx.out.drewN _, HX3.out, HX4.out⟩
                        case measure => simp [intOf]; omega
                      · obtain rfl : j = q := by omega
                        go_wp2_with (fail)
                        go_meet
                        case rel => exact ⟨rfl, hPx⟩
                  · have e4 : (kd == 4) = false := by simpa using k4
                    by_cases k5 : kd = 5
                    · have e5 : (kd == 5) = true := by simpa using k5
                      clear k0 k1 k2 k3 k4 k5
                      have hP := fun (w2 : World) (b : Nat) (hS : Sr g 61 w2 (some ⟨g, 0, none⟩) r) (hr : Rd w2 w2.heap.size 1 (some ⟨b, 0, none⟩) 3 3 (ints [4, 5, 6])) (hne : g ≠ b) => pick_of (n := 3) [4, 5, 6] hS hr (by omega) (by omega) (fun e => hne (Option.some.inj e))
                      have hY := fun (w2 : World) (h : Sr w.heap.size 48 w2 (some ⟨w1.heap.size, 0, none⟩) r) => rnum_of 3 (by decide) h
                      have hm3 : numOf 3 r < 3 := by have := numOf_lt 3 r (by decide); omega
                      have hpk : ([4, 5, 6] : List Nat).getD (numOf 3 r) 0 = 4 + numOf 3 r := by
                        have : numOf 3 r = 0 ∨ numOf 3 r = 1 ∨ numOf 3 r = 2 := by omega
                        rcases this with e | e | e <;> rw [e] <;> rfl
                      rw [show (((3 : Nat) : Int)) = 3 from rfl, hpk] at hP
                      generalize numOf 3 r = m at *
                      have hmi : ((4 + m : Nat) : Int) = 4 + (m : Int) := by omega
                      rw [hmi] at hP
                      have qm : ((4 + (m : Int)) == (4 + (m : Int))) = true := beq_self_eq_true _
                      have hm3' : (m : Int) < 3 := by omega
                      have hz1' : (wr.alloc (.cells #[.int .i64 kd, .int .i64 nn] 50)).heap.size = wr.heap.size + 1 := by simp
                      have hlit := Rd.lit (fr := (0, 0)) (B := ((wr.alloc (.cells #[.int .i64 kd, .int .i64 nn] 50)).alloc (.cells #[.int .i64 4, .int .i64 5, .int .i64 6] 3)).heap.size) (wr.alloc (.cells #[.int .i64 kd, .int .i64 nn] 50)) #[.int .i64 4, .int .i64 5, .int .i64 6] 3 rfl (show 3 ≤ maxLen by unfold maxLen; omega) (by simp)
                      rw [hz1'] at hlit
                      have HP1 := Lib.hid (hP _ _ (HR.out.far (World.grownBy_alloc _ (.cells #[.int .i64 4, .int .i64 5, .int .i64 6] 3) none) (fun r hr => by cases hr)) hlit (by have := HG.out; omega))
                      have HYY := Lib.hid hY
                      clear hP hY hpk hmi hm3 hlit hz1'
                      go_wp2_with (first
                        | (go_at_call 33; with_reducible refine HP1.out.mono ?_; rintro e w2 ⟨rfl, hS2, hg2⟩
                           have hg2' := grownBy_trans (below_grown ((Below.refl _ _).alloc (Nat.le_refl _) _) (some g)) hg2 (.inl rfl)
                           have hF2 := sr_by (HF'.out) hg2' (Nat.ne_of_lt hgl) hg)
                        | (go_at_call 33; refine pick_nil.mono ?_; rintro e w4 ⟨rfl, rfl⟩)
                        | (go_at_call 26; refine (HYY.out _ hF2).mono ?_; rintro e w3 ⟨rfl, hF3, hg3⟩)
                        | fail)
                      go_meet
                      case rel => exact ⟨rfl, pair_next HB.out hg hgl (drop_len r _ hrl) hS2 hg2' hg3 hF3⟩
                    · have e5 : (kd == 5) = false := by simpa using k5
                      clear k0 k1 k2 k3 k4 k5
                      go_wp2_with (first
                        | (go_at_call 34; refine (clone_of HR.out (by omega)).mono ?_; rintro e w2 ⟨g', rfl, hg', hS2, hb2⟩)
                        | (go_at_call 27; refine (bytes_of 200 hS2).mono ?_; rintro e w3 ⟨v3, rfl, hown3, hS3, hg3⟩)
                        | fail)
                      go_meet
                      case rel =>
                        have hzz := HB.out.size
                        refine ⟨rfl, r, hrl, ?_, ?_, ?_⟩
                        · exact (HR.out.below hb2).far hg3 (fun k hk G hG => by obtain rfl : g' = k := Option.some.inj hk; obtain rfl : g = G := Option.some.inj hG; have := HG.out; simp at hg'; omega)
                        · exact (HF'.out.below hb2).far hg3 (fun k hk G hG => by obtain rfl : g' = k := Option.some.inj hk; obtain rfl : w1.heap.size = G := Option.some.inj hG; have := HG2.out; simp at hg'; omega)
                        · exact (HB.out.trans (hb2.mono hzz)).grown hg3 (Nat.le_trans hzz hb2.size) (fun k hk => by obtain rfl : g' = k := Option.some.inj hk; omega)
        case rest =>
          obtain ⟨rfl, r', hrl', hS', hF', hb'⟩ := hcut
          clear HP c0 c1 hS hF
          obtain ⟨L, hL⟩ : ∃ L : Nat, r'.length = L := ⟨_, rfl⟩
          have cL := left_of hS'
          have cM := rleft_of hF'
          rw [hL] at cL cM
          have HR := Lib.hid hS'
          have HF := Lib.hid hF'
          have HB := Lib.hid hb'
          have HCL := Lib.hid cL
          have HCM := Lib.hid cM
          have HLL := Lib.hid hL
          clear hS' hF' hb' cL cM hL
          have qL : ((L : Int) != (L : Int)) = false := bne_self_eq_false _
          go_wp2_with (first
            | (go_at_call 35; refine HCL.out.mono ?_; rintro e w2 ⟨rfl, rfl⟩)
            | (go_at_call 36; refine HCM.out.mono ?_; rintro e w2 ⟨rfl, rfl⟩)
            | fail)
          exact ⟨⟨i + 1, hlt, rfl, r', hrl', HR.out, HF.out, HB.out⟩, by simp only [intOf]; omega⟩
    · obtain rfl : i = n2 := by omega
      go_wp2_with (go_at_call 21; refine (dlives _).mono ?_; rintro e w6 ⟨rfl, hb6⟩)
      go_ret
      exact ⟨rfl, hb.trans (hb6.mono hb.size)⟩

theorem drawPlays_walk {w : World} (A : Option Addr) (n c : Nat) (l : List UInt8) (h : Rd w w.heap.size 1 A n c (u8s l)) (A2 : Option Addr) (n2 c2 : Nat) (ps : List (Int × Int)) (h2 : Rd w w.heap.size 2 A2 n2 c2 (pairs ps)) (hps : ps.length = n2 ∧ ∀ p ∈ ps, (Lit.int .i64 p.2).wf = true) :
    Calls Try.prog 7 #[.slice A n c, .slice A2 n2 c2] w fun e w' => e = .returned (.bool true) ∧ Below w.heap.size w w' := by
  by_cases hb : n ≤ 1000 ∧ n2 ≤ 60
  · exact drawPlays_late A A2 n c n2 c2 l ps w h h2 hps.1 (Lib.hid hps.2) hb.1 hb.2
  · exact drawPlays_early A A2 n c n2 c2 w (by omega)

namespace drawPlays
open Go.ChangeShapes Go.WideShapes Go.ChangeAt
set_option maxRecDepth 100000 in
theorem lifted (os : Os) (started : os.Started) (H : Type) (enc : TypeId × Value → H) :
    ReturnsInHanded {} Try.checked os 7 .any (Rows.drawPlaysSpec.pre6 enc Try.prog Try.f7 Rows.drawPlaysRow.domain false) (Rows.drawPlaysSpec.post enc Try.prog Try.f7 false true false false) := by
  refine returnsInHanded_of_change (C := Try.checked) own started (by kernel_rfl) Try.func7
    (ChangeSpec.witness6 (enc := enc) (C := Try.checked) false ⟨#[], #[.slice none 0 0, .slice none 0 0], []⟩ 8 (by kernel_rfl) (by kernel_rfl) (by kernel_rfl) (by kernel_rfl)) ?_
  intro W base args ds gs before hval0 hW _ _
  have hval : ∀ (j : Nat) t v, Try.f7.params[j]? = some t → args[j]? = some v → Value.okWide Try.prog W .any base t v := hval0
  have hW' := hW
  obtain ⟨p, q, hA0, hV, rfl, hfz, hnd⟩ := hW
  have hA : DataW.TrodAll enc Try.prog W 0 (fun _ => true) true Try.f7.params.toList args.toList ds p := hA0
  rw [Try.params7] at hA hval
  obtain ⟨v0, vs0, d0, ds0, p0, q0, hargs, rfl, rfl, h0, r0⟩ := trodAll_cons hA
  obtain ⟨v1, vs1, d1, ds1, p1, q1, rfl, rfl, rfl, h1, r1⟩ := trodAll_cons r0
  obtain ⟨rfl, rfl, rfl⟩ := trodAll_nil r1
  obtain rfl : args = #[v0, v1] := by cases args; simp_all
  obtain ⟨rfl, rfl⟩ := trodVars_none hV
  have k0 := h0
  have lt0 : ∀ x ∈ p0, x.block < W.heap.size := by obtain ⟨m, hm⟩ := k0; exact DataW.trod_lt m _ _ _ hm
  obtain ⟨a0, n0, c0, l0, rfl, w0⟩ := dec_bytes Try.underlying23 Try.underlying5 (by kernel_rfl) (hval 0 23 v0 rfl rfl) h0
  have k1 := h1
  have lt1 : ∀ x ∈ p1, x.block < W.heap.size := by obtain ⟨m, hm⟩ := k1; exact DataW.trod_lt m _ _ _ hm
  obtain ⟨a1, n1, c1, l1, rfl, w1, b1⟩ := dec_pairs2 Try.underlying43 Try.underlying50 (by kernel_rfl) (by kernel_rfl) Try.underlying3 Try.underlying3 (hval 1 43 v1 rfl rfl) h1
  clear hA0 hval0
  refine (drawPlays_walk a0 n0 c0 l0 w0 a1 n1 c1 l1 w1 b1).mono fun e W' ⟨he, bel⟩ => ?_
  subst he
  exact ⟨_, rfl, _, _, _, [], _, [], hW', trodAll_mk1 (shut_bool Try.underlying4 _), (trodAll_cons_mk (Below.trod laidOut (by kernel_rfl) (of_decide_eq_true (by kernel_rfl)) k0 bel lt0) (trodAll_cons_mk (Below.trod laidOut (by kernel_rfl) (of_decide_eq_true (by kernel_rfl)) k1 bel lt1) trodAll_mk0)), rfl, bel.frame _, fun h => by cases h⟩

theorem over : Rows.drawPlaysRow.holds Try.pinned (OpenSpec.ofChange Rows.drawPlaysSpec) :=
  OpenClaim.holds_of_wide 7 Try.f7 rfl rfl rfl rfl rfl rfl rfl ⟨rfl, rfl, rfl, rfl, rfl⟩ rfl rfl rfl rfl rfl (by kernel_rfl) Try.func7 (by kernel_rfl)
    (of_decide_eq_true (by kernel_rfl)) (by unfold Func.isWrapper; first | (rw [if_pos (by decide +kernel)]; kernel_rfl) | (rw [if_neg (by decide +kernel)]; exact ⟨rfl, rfl⟩))
    (fun os started H enc _ => lifted os started H enc)
/-- The given statement. -/
theorem proved : Rows.DrawPlaysSaid := over
end drawPlays

end Go.Proofs.Ytfiejdikgbeodaa
