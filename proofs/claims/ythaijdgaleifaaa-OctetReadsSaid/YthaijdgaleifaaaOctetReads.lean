/- OctetReads: whatever is read of any bytes, in any order, what is told, what is left, and when it is bad, is the document's: the law answers true for all bytes and calls. -/
import Derived.Test.YthaijdgaleifaaaLivesa
import Derived.Test.YthaijdgaleifaaaRowkit
import Derived.Test.YthaijdgaleifaaaSegs
import Derived.Deep.DeepCutAuto
import Derived.Deep.CutBlock
namespace Go.Proofs.Ythaijdgaleifaaa
open Go.RowKit

theorem octetReads_early (A A2 : Option Addr) (n c n2 c2 : Nat) (w : World) (hbig : 20000 < n ∨ 60 < n2) :
    Calls Try.prog 4 #[.slice A n c, .slice A2 n2 c2] w fun e w' => e = .returned (.bool true) ∧ Below w.heap.size w w' := by
  by_cases h1 : 20000 < n
  · have d1 : decide (20000 < n) = true := by simpa using h1
    go_enter Try.func4, Try.ntmps4
    go_wp2_with (go_at_call 10; refine (lives1 _).mono ?_; rintro e w6 ⟨rfl, hb6⟩)
    go_ret
    exact ⟨rfl, hb6⟩
  · have d1 : decide (20000 < n) = false := by simpa using h1
    have d2 : decide (60 < n2) = true := by simp; omega
    go_enter Try.func4, Try.ntmps4
    go_wp2_with (go_at_call 10; refine (lives1 _).mono ?_; rintro e w6 ⟨rfl, hb6⟩)
    go_ret
    exact ⟨rfl, hb6⟩

/-- Both readers are at one place. -/
def Both (w wr : World) (g g2 : Nat) (A : Option Addr) (n c : Nat) (l : List UInt8) : Prop := ∃ a b, Rdr wr g (refSt l a b) ∧ RefR wr g2 A n c a b ∧ a ≤ n ∧ Below w.heap.size w wr
theorem q_left {P : Program} {f : FuncId} {args : Array Value} {w : World} {n : Nat} {v : Value} (h : Calls P f args (w.drewN n) fun e w' => e = .returned v ∧ w.drewN n = w') : Calls P f args (w.drewN n) fun e w'' => e = .returned v ∧ ∃ m, w'' = w.drewN m :=
  h.mono fun _ _ ⟨he, hm⟩ => ⟨he, n, hm.symm⟩
theorem below_drewN {B : Nat} {w w' : World} (h : Below B w w') (k : Nat) : Below B w (w'.drewN k) := ⟨h.os, h.tape, h.output, h.size, h.block⟩

theorem both_next {w wd w2 w3 : World} {g g2 n c a' : Nat} {A : Option Addr} {b' : Bool} {l : List UInt8} {s' : St} (hb : Below w.heap.size w wd) (hg : w.heap.size ≤ g) (hlt : g < g2) (hR : Rdr w2 g s') (h2 : wd.grownBy w2 (some g)) (h3 : w2.grownBy w3 (some g2))
    (hF : RefR w3 g2 A n c a' b') (ha : a' ≤ n) (hs : refSt l a' b' = s') : Both w w3 g g2 A n c l :=
  ⟨a', b', hs ▸ hR.kept h3 (fun e => by cases e; omega), hF, ha, (hb.grown h2 hb.size (fun j e => by cases e; exact hg)).grown h3 (Nat.le_trans hb.size h2.size) (fun j e => by cases e; omega)⟩
theorem cell_by {w w' : World} {k p g : Nat} {v : Value} (hg : w.grownBy w' (some g)) (hk : k < w.heap.size) (hne : g < k) (h : w.cell? ⟨k, p, none⟩ = some v) : w'.cell? ⟨k, p, none⟩ = some v :=
  (World.cell?_of_block (hg.block k hk (fun e => by cases e; omega))).trans h
theorem bad_same (l : List UInt8) (a : Nat) (b : Bool) : (refSt l a b).bad = b := by cases b <;> rfl
theorem left_same (l : List UInt8) (a : Nat) (b : Bool) (ha : a ≤ l.length) : ((refSt l a b).l.length : Int) = leftOf l.length a b := by
  cases b
  · show ((l.drop a).length : Int) = (l.length : Int) - a
    rw [List.length_drop]
    omega
  · rfl
/-- What is held of a world's memory is held of the memory that an earlier world had, as far as it goes. -/
theorem rd_back {w w2 : World} {B B2 sz n c : Nat} {A : Option Addr} {xs : List Value} (h : Rd w2 B2 sz A n c xs) (h0 : Rd w B sz A n c xs) : Rd w2 B sz A n c xs := by
  obtain ⟨a1, a2, a3, a4⟩ := h
  obtain ⟨_, _, _, b4⟩ := h0
  refine ⟨a1, a2, a3, fun hn => ?_⟩
  obtain ⟨b, o, rfl, _, hc⟩ := a4 hn
  obtain ⟨b', o', e, hl, _⟩ := b4 hn
  cases e
  exact ⟨_, _, rfl, hl, hc⟩
theorem rdr_drew {w : World} {g : Nat} {s : St} (h : Rdr w g s) : Rdr w.drew g s := h
theorem refr_drew {w : World} {g n c a : Nat} {A : Option Addr} {b : Bool} (h : RefR w g A n c a b) : RefR w.drew g A n c a b := h
theorem cell_drew {w : World} {p : Addr} {v : Value} (h : w.cell? p = some v) : w.drew.cell? p = some v := h

set_option maxHeartbeats 1000000 in
set_option maxRecDepth 8000 in
theorem octetReads_late (A A2 : Option Addr) (n c n2 c2 : Nat) (l : List UInt8) (ps : List (Int × Int)) (w : World) (h : Rd w w.heap.size 1 A n c (u8s l)) (h2 : Rd w w.heap.size 2 A2 n2 c2 (pairs ps)) (hps : ps.length = n2) (hn : n ≤ 20000) (hn2 : n2 ≤ 60) :
    Calls Try.prog 4 #[.slice A n c, .slice A2 n2 c2] w fun e w' => e = .returned (.bool true) ∧ Below w.heap.size w w' := by
  obtain rfl : l.length = n := by have := h.len; rwa [u8s_len] at this
  have d1 : decide (20000 < l.length) = false := by simp; omega
  have d2 : decide (60 < n2) = false := by simp; omega
  have HPS := Lib.hid hps
  clear hps
  go_enter Try.func4, Try.ntmps4
  go_wp2_with (go_at_call 15; refine (read_any _ _ _ l _ h (by omega)).mono ?_; rintro e w1 ⟨g, rfl, hg, hR, hb1⟩; have hz1 := hb1.size; have hgl := hR.lt)
  go_loopw [28] (fun ir wr => ∃ i : Nat, i ≤ n2 ∧ ir = .int .i64 i ∧ Both w wr g w1.heap.size A l.length c l) (fun ir _ => n2 - (intOf ir).toNat)
  case atStart => exact ⟨0, Nat.zero_le _, rfl, 0, false, hR.kept (World.grownBy_alloc _ _ none) (by simp), heap_alloc_new w1 _, Nat.zero_le _, hb1.alloc hz1 _⟩
  case round =>
    obtain ⟨i, hi, rfl, a, b, hR, hF, ha, hb⟩ := hrel
    by_cases hlt : i < n2
    · obtain ⟨⟨kd, nn⟩, hp⟩ : ∃ p, ps[i]? = some p := ⟨_, List.getElem?_eq_getElem (by rw [HPS.out]; exact hlt)⟩
      have hpg := pairs_get ps i (kd, nn) hp
      obtain ⟨bb, o, rfl, hbl, hcell⟩ := (h2.below hb).2.2.2 (by omega)
      have c0 : wr.cell? ⟨bb, o + i * 2, none⟩ = some (.int .i64 kd) := hcell _ _ hpg.1
      have c1 : wr.cell? ⟨bb, o + i * 2 + 1, none⟩ = some (.int .i64 nn) := by rw [Nat.add_assoc]; exact hcell _ _ hpg.2
      have HP := Lib.hid hp
      clear hp hpg hcell
      have hR := Lib.hid hR
      have hF := Lib.hid hF
      go_upto_block 2 with (fail)
      go_cut [9] (fun gv wx => gv = .bool true ∧ Both w wx g w1.heap.size A l.length c l)
      case first =>
        have hzr : w.heap.size ≤ wr.heap.size := hb.size
        have hgo : wr.grownBy (wr.alloc (.cells #[.int .i64 kd, .int .i64 nn] 40)) none := World.grownBy_alloc _ _ none
        have HR := Lib.hid (hR.out.kept hgo (by simp))
        have HF' := Lib.hid (hF.out.kept hgo (by simp))
        have HB := Lib.hid (hb.alloc hzr (.cells #[.int .i64 kd, .int .i64 nn] 40))
        have CO := Lib.hid (cell_drew (cell_of_row _ wr.heap.size 1 _ _ _ (heap_alloc_new wr (.cells #[.int .i64 kd, .int .i64 nn] 40))))
        have HO := Lib.hid hgo
        have HS := Lib.hid (show wr.heap.size < (wr.alloc (.cells #[.int .i64 kd, .int .i64 nn] 40)).drew.heap.size from by show _ < (wr.heap.push _).size; simp )
        have HG := Lib.hid (show g < wr.heap.size from hR.out.lt)
        have HG2 := Lib.hid (show w1.heap.size < wr.heap.size from hF.out.lt)
        clear hzr hgo c0 c1
        by_cases k0 : kd = 0
        · have e0 : (kd == 0) = true := by simpa using k0
          clear k0
          go_wp2_with (fail)
          refine wp_segs [([0, 1, 2, 4, 5, 6], 3), ([], 7)] [8, 9] (fun x => x.cell? ⟨wr.heap.size, 1, none⟩ = some (.int .i64 nn)) (by kernel_rfl) (by kernel_rfl) (fun d _ _ _ _ h => by cases d <;> exact h) CO.out ?_
          intro f hf
          have F1 : ∀ z, (f z).cell? ⟨wr.heap.size, 1, none⟩ = some (.int .i64 nn) := hf
          simp only [pickI, Option.toList_some, List.cons_append, List.nil_append, List.getElem?_toArray, List.getElem?_cons_succ, List.getElem?_cons_zero]
          repeat (go_big_quiet_step (fail))
          refine wpQuiet_nil ?_
          clear F1 hf f
          refine seg_op (by simp only [List.getElem?_toArray, List.getElem?_cons_succ, List.getElem?_cons_zero]; rfl) fun K hK => ?_
          go_simp
          refine (num_all g _ nn _ (rdr_drew HR.out)).mono ?_
          rintro e w2 ⟨rfl, hR2, hg2⟩
          have hF2 := (refr_drew HF'.out).kept hg2 (by simp; omega)
          have hr2 := (h.below HB.out.drew).by HB.out.drew.size hg2 hg
          have CO2 := cell_by hg2 HS.out HG.out CO.out
          refine hK.out _ _ ⟨_, CO2, fun _ h => h, ?_⟩
          clear hK K
          intro f hf
          refine wpQuiet_nil ?_
          clear hf f
          refine seg_op (by simp only [List.getElem?_toArray, List.getElem?_cons_succ, List.getElem?_cons_zero]; rfl) fun K hK => ?_
          go_simp
          refine (rnum_all w.heap.size w1.heap.size l.length c a b A l nn _ hF2 hr2 hz1 ha (by omega)).mono ?_
          rintro e w3 ⟨a', b', rfl, hF3, ha3, hs3, hg3⟩
          have CO3 := cell_by hg3 (Nat.lt_of_lt_of_le HS.out hg2.size) HG2.out CO2
          have HN := Lib.hid (both_next HB.out.drew hg hgl hR2 hg2 hg3 hF3 ha3 hs3)
          clear hR2 hg2 hF2 hr2 CO2 hF3 ha3 hs3 hg3
          generalize ((refSt l a b).num nn).1 = m
          have qm : ((m : Int) == (m : Int)) = true := beq_self_eq_true _
          refine hK.out _ _ ⟨_, CO3, fun _ h => h, ?_⟩
          clear hK K
          intro f hf
          simp only [pickI, Option.toList_some, List.cons_append, List.nil_append, List.getElem?_toArray, List.getElem?_cons_succ, List.getElem?_cons_zero]
          repeat (go_big_quiet_step (fail))
          refine wpQuiet_nil ?_
          clear hf f
          go_wp2_with (fail)
          go_meet
          case rel => exact ⟨rfl, HN.out⟩
        · have e0 : (kd == 0) = false := by simpa using k0
          by_cases k1 : kd = 1
          · have e1 : (kd == 1) = true := by simpa using k1
            clear k0 k1
            go_wp2_with (fail)
            refine wp_segs [([0, 1, 2, 5, 6, 7], 3), ([4], 8)] [9, 10, 11] (fun x => x.cell? ⟨wr.heap.size, 1, none⟩ = some (.int .i64 nn)) (by kernel_rfl) (by kernel_rfl) (fun d _ _ _ _ h => by cases d <;> exact h) CO.out ?_
            intro f hf
            have F1 : ∀ z, (f z).cell? ⟨wr.heap.size, 1, none⟩ = some (.int .i64 nn) := hf
            simp only [pickI, Option.toList_some, List.cons_append, List.nil_append, List.getElem?_toArray, List.getElem?_cons_succ, List.getElem?_cons_zero]
            repeat (go_big_quiet_step (fail))
            refine wpQuiet_nil ?_
            clear F1 hf f
            refine seg_op (by simp only [List.getElem?_toArray, List.getElem?_cons_succ, List.getElem?_cons_zero]; rfl) fun K hK => ?_
            go_simp
            refine (take_any g _ nn _ (rdr_drew HR.out)).mono ?_
            rintro e w2 ⟨v2, rfl, hown2, hR2, hg2⟩
            obtain ⟨A2, c2', rfl⟩ := ownsRow_form hown2
            have hrt := ownsRow_rd hown2
            have hF2 := (refr_drew HF'.out).kept hg2 (by simp; omega)
            have hr2 := (h.below HB.out.drew).by HB.out.drew.size hg2 hg
            have CO2 := cell_by hg2 HS.out HG.out CO.out
            have hB2 := Nat.le_of_lt (Nat.lt_of_lt_of_le HS.out hg2.size)
            generalize hnx : (refSt l a b).next nn = r at *
            obtain ⟨t, s'⟩ := r
            refine hK.out _ _ ⟨fun x => x.cell? ⟨wr.heap.size, 1, none⟩ = some (.int .i64 nn) ∧ Rd x w2.heap.size 1 A2 t.length c2' (u8s t), ⟨CO2, hrt⟩, fun _ h => h.1, ?_⟩
            clear hK K
            intro f hf
            have F1 := fun z => run_str (P := Try.prog) Try.underlying22 Try.underlying5 Try.underlying9 (hf z).2
            simp only [pickI, Option.toList_some, List.cons_append, List.nil_append, List.getElem?_toArray, List.getElem?_cons_succ, List.getElem?_cons_zero]
            repeat (go_big_quiet_step (fail))
            refine wpQuiet_nil ?_
            clear F1 hf f
            refine seg_op (by simp only [List.getElem?_toArray, List.getElem?_cons_succ, List.getElem?_cons_zero]; rfl) fun K hK => ?_
            go_simp
            refine (rtake_any w.heap.size w1.heap.size l.length c a b A l nn _ hF2 hr2 hz1 ha (by omega)).mono ?_
            rintro e w3 ⟨A3, n3, c3, a', b', rfl, hr3, hF3, ha3, hs3, hg3⟩
            rw [hnx] at hr3 hs3
            have CO3 := cell_by hg3 (Nat.lt_of_lt_of_le HS.out hg2.size) HG2.out CO2
            have hf3 := ownsRow_far hown2 hg3 (fun k hk e => by have := (hown2.lt k hk).1; have := HG2.out; have := HS.out; omega)
            have HN := Lib.hid (both_next HB.out.drew hg hgl hR2 hg2 hg3 hF3 ha3 hs3)
            have hs23 := hg3.size
            have hsz : w.heap.size ≤ w2.heap.size := Nat.le_trans HB.out.drew.size hg2.size
            clear hR2 hg2 hF2 hr2 CO2 hF3 ha3 hs3 hg3
            have qt : ((str t).toList == (str t).toList) = true := beq_self_eq_true _
            refine hK.out _ _ ⟨fun x => x.cell? ⟨wr.heap.size, 1, none⟩ = some (.int .i64 nn) ∧ Rd x w2.heap.size 1 A2 t.length c2' (u8s t) ∧ Rd x w.heap.size 1 A3 n3 c3 (u8s t), ⟨CO3, rd_back hf3 hrt, hr3⟩, fun _ h => ⟨h.1, h.2.1⟩, ?_⟩
            clear hK K
            intro f hf
            have F1 := fun z => run_str (P := Try.prog) Try.underlying22 Try.underlying5 Try.underlying9 (hf z).2.2
            simp only [pickI, Option.toList_some, List.cons_append, List.nil_append, List.getElem?_toArray, List.getElem?_cons_succ, List.getElem?_cons_zero]
            repeat (go_big_quiet_step (fail))
            refine wpQuiet_nil ?_
            clear F1 hf f
            go_wp2_with (fail)
            go_meet
            case rel => exact ⟨rfl, HN.out⟩
          · have e1 : (kd == 1) = false := by simpa using k1
            by_cases k2 : kd = 2
            · have e2 : (kd == 2) = true := by simpa using k2
              clear k0 k1 k2
              generalize htx : (refSt l a b).text = r at *
              obtain ⟨t, s'⟩ := r
              have qt : ((str t).toList == (str t).toList) = true := beq_self_eq_true _
              have hT := text_any g _ _ HR.out
              rw [htx] at hT
              have HT := Lib.hid hT
              clear hT
              go_wp2_with (first
                | (go_at_call 20; refine HT.out.mono ?_; rintro e w2 ⟨rfl, hR2, hg2⟩
                   have hF2 := (HF'.out).kept hg2 (by simp; omega)
                   have hr2 := (h.below HB.out).by HB.out.size hg2 hg
                   have hT3 := rtext_all w.heap.size w1.heap.size l.length c a b A l _ hF2 hr2 hz1 ha (by omega)
                   rw [htx] at hT3)
                | (go_at_call 21; refine hT3.mono ?_; rintro e w3 ⟨a', b', rfl, hF3, ha3, hs3, hg3⟩)
                | fail)
              go_meet
              case rel => exact ⟨rfl, both_next HB.out hg hgl hR2 hg2 hg3 hF3 ha3 hs3⟩
            · have e2 : (kd == 2) = false := by simpa using k2
              by_cases k3 : kd = 3
              · have e3 : (kd == 3) = true := by simpa using k3
                clear k0 k1 k2 k3
                go_wp2_with (first
                  | (go_at_call 22; refine (fail_any g _ _ HR.out).mono ?_; rintro e w2 ⟨rfl, hR2, hg2⟩
                     have hF2 := (HF'.out).kept hg2 (by simp; omega)
                     have h2c := hF2.cell2
                     have h2f := hF2.free 2)
                  | fail)
                go_meet
                case rel => exact ⟨rfl, both_next (w3 := w2.setCell ⟨w1.heap.size, 2, none⟩ (.bool true)) HB.out hg hgl hR2 hg2 (setCell_by (p := ⟨w1.heap.size, 2, none⟩) (World.grownBy.refl w2 _) rfl _) (hF2.put2 true) ha rfl⟩
              · have e3 : (kd == 3) = false := by simpa using k3
                clear k0 k1 k2 k3
                go_wp2_with (fail)
                go_meet
                case rel => exact ⟨rfl, a, b, HR.out, HF'.out, ha, HB.out⟩
      case rest =>
        obtain ⟨rfl, a', b', hR', hF', ha', hb'⟩ := hcut
        clear HP c0 c1 hR hF
        obtain ⟨L, hL1, hL2⟩ : ∃ L : Int, ((refSt l a' b').l.length : Int) = L ∧ leftOf l.length a' b' = L := ⟨_, rfl, (left_same l a' b' ha').symm⟩
        have cL : ∀ k, Calls Try.prog 23 #[.pointer (some ⟨g, 0, none⟩)] (wc.drewN k) fun e w' => e = .returned (.int .i64 L) ∧ wc.drewN k = w' := fun k => hL1 ▸ left_any g _ (wc.drewN k) hR'
        have cM : ∀ k, Calls Try.prog 24 #[.pointer (some ⟨w1.heap.size, 0, none⟩)] (wc.drewN k) fun e w' => e = .returned (.int .i64 L) ∧ ∃ m, w' = (wc.drewN k).drewN m := fun k => hL2 ▸ rleft_any w1.heap.size l.length c a' A b' (wc.drewN k) hF' ha' (by omega)
        have cB : ∀ k, Calls Try.prog 25 #[.pointer (some ⟨g, 0, none⟩)] (wc.drewN k) fun e w' => e = .returned (.bool b') ∧ wc.drewN k = w' := fun k => by have := bad_any g _ (wc.drewN k) hR'; rwa [bad_same] at this
        have hc2 := hF'.cell2
        have HR := Lib.hid hR'
        have HF := Lib.hid hF'
        have HB := Lib.hid hb'
        clear hR' hF' hb'
        have qL : (L != L) = false := bne_self_eq_false _
        have qb : (b' != b') = false := bne_self_eq_false _
        obtain ⟨E, hE, hE2⟩ : ∃ E : Int, (refSt l a' b').end_ = E ∧ (E = 0 ∨ E = 10) := ⟨_, rfl, by unfold St.end_; split <;> simp⟩
        have cE : ∀ k, Calls Try.prog 26 #[.pointer (some ⟨g, 0, none⟩)] (wc.drewN k) fun e w' => e = .returned (.int .i64 E) ∧ wc.drewN k = w' := fun k => hE ▸ end_any g _ (wc.drewN k) HR.out
        have cF : ∀ k, Calls Try.prog 27 #[.pointer (some ⟨w1.heap.size, 0, none⟩)] (wc.drewN k) fun e w' => e = .returned (.int .i64 E) ∧ ∃ m, w' = (wc.drewN k).drewN m := fun k => hE ▸ rend_any w1.heap.size l.length c a' b' A l (wc.drewN k) HF.out rfl ha' (by omega)
        have qE : (E != E) = false := bne_self_eq_false _
        have hE3 : IntKind.i64.wrap E = E := by rcases hE2 with rfl | rfl <;> rfl
        clear hE2
        go_wp2_with (fail)
        go_quiet (first
          | (go_at_call 23; exact q_left (cL _))
          | (go_at_call 24; exact Calls.quiet_of (cM _))
          | (go_at_call 25; exact q_left (cB _))
          | (go_at_call 26; exact q_left (cE _))
          | (go_at_call 27; exact Calls.quiet_of (cF _)))
        go_wp2_with (fail)
        exact ⟨⟨i + 1, hlt, rfl, a', b', HR.out, HF.out, ha', below_drewN HB.out nq⟩, by simp only [intOf]; omega⟩
    · obtain rfl : i = n2 := by omega
      go_wp2_with (go_at_call 10; refine (lives1 _).mono ?_; rintro e w6 ⟨rfl, hb6⟩)
      go_ret
      exact ⟨rfl, hb.trans (hb6.mono hb.size)⟩

theorem octetReads_walk {w : World} (A : Option Addr) (n c : Nat) (l : List UInt8) (h : Rd w w.heap.size 1 A n c (u8s l)) (A2 : Option Addr) (n2 c2 : Nat) (ps : List (Int × Int)) (h2 : Rd w w.heap.size 2 A2 n2 c2 (pairs ps)) (hps : ps.length = n2) :
    Calls Try.prog 4 #[.slice A n c, .slice A2 n2 c2] w fun e w' => e = .returned (.bool true) ∧ Below w.heap.size w w' := by
  by_cases hb : n ≤ 20000 ∧ n2 ≤ 60
  · exact octetReads_late A A2 n c n2 c2 l ps w h h2 hps hb.1 hb.2
  · exact octetReads_early A A2 n c n2 c2 w (by omega)

namespace octetReads
open Go.ChangeShapes Go.WideShapes Go.ChangeAt
set_option maxRecDepth 100000 in
theorem lifted (os : Os) (started : os.Started) (H : Type) (enc : TypeId × Value → H) :
    ReturnsInHanded {} Try.checked os 4 .any (Rows.octetReadsSpec.pre6 enc Try.prog Try.f4 Rows.octetReadsRow.domain false) (Rows.octetReadsSpec.post enc Try.prog Try.f4 false true false false) := by
  refine returnsInHanded_of_change (C := Try.checked) own started (by kernel_rfl) Try.func4
    (ChangeSpec.witness6 (enc := enc) (C := Try.checked) false ⟨#[], #[.slice none 0 0, .slice none 0 0], []⟩ 8 (by kernel_rfl) (by kernel_rfl) (by kernel_rfl) (by kernel_rfl)) ?_
  intro W base args ds gs before hval0 hW _ _
  have hval : ∀ (j : Nat) t v, Try.f4.params[j]? = some t → args[j]? = some v → Value.okWide Try.prog W .any base t v := hval0
  have hW' := hW
  obtain ⟨p, q, hA0, hV, rfl, hfz, hnd⟩ := hW
  have hA : DataW.TrodAll enc Try.prog W 0 (fun _ => true) true Try.f4.params.toList args.toList ds p := hA0
  rw [Try.params4] at hA hval
  obtain ⟨v0, vs0, d0, ds0, p0, q0, hargs, rfl, rfl, h0, r0⟩ := trodAll_cons hA
  obtain ⟨v1, vs1, d1, ds1, p1, q1, rfl, rfl, rfl, h1, r1⟩ := trodAll_cons r0
  obtain ⟨rfl, rfl, rfl⟩ := trodAll_nil r1
  obtain rfl : args = #[v0, v1] := by cases args; simp_all
  obtain ⟨rfl, rfl⟩ := trodVars_none hV
  have k0 := h0
  have lt0 : ∀ x ∈ p0, x.block < W.heap.size := by obtain ⟨m, hm⟩ := k0; exact DataW.trod_lt m _ _ _ hm
  obtain ⟨a0, n0, c0, l0, rfl, w0⟩ := dec_bytes Try.underlying22 Try.underlying5 (by kernel_rfl) (hval 0 22 v0 rfl rfl) h0
  have k1 := h1
  have lt1 : ∀ x ∈ p1, x.block < W.heap.size := by obtain ⟨m, hm⟩ := k1; exact DataW.trod_lt m _ _ _ hm
  obtain ⟨a1, n1, c1, l1, rfl, w1, b1⟩ := dec_pairs Try.underlying33 Try.underlying40 (by kernel_rfl) (by kernel_rfl) Try.underlying3 Try.underlying3 (hval 1 33 v1 rfl rfl) h1
  clear hA0 hval0
  refine (octetReads_walk a0 n0 c0 l0 w0 a1 n1 c1 l1 w1 b1).mono fun e W' ⟨he, bel⟩ => ?_
  subst he
  exact ⟨_, rfl, _, _, _, [], _, [], hW', trodAll_mk1 (shut_bool Try.underlying4 _), (trodAll_cons_mk (Below.trod laidOut (by kernel_rfl) (of_decide_eq_true (by kernel_rfl)) k0 bel lt0) (trodAll_cons_mk (Below.trod laidOut (by kernel_rfl) (of_decide_eq_true (by kernel_rfl)) k1 bel lt1) trodAll_mk0)), rfl, bel.frame _, fun h => by cases h⟩

theorem over : Rows.octetReadsRow.holds Try.pinned (OpenSpec.ofChange Rows.octetReadsSpec) :=
  OpenClaim.holds_of_wide 4 Try.f4 rfl rfl rfl rfl rfl rfl rfl ⟨rfl, rfl, rfl, rfl, rfl⟩ rfl rfl rfl rfl rfl (by kernel_rfl) Try.func4 (by kernel_rfl)
    (of_decide_eq_true (by kernel_rfl)) (by unfold Func.isWrapper; first | (rw [if_pos (by decide +kernel)]; kernel_rfl) | (rw [if_neg (by decide +kernel)]; exact ⟨rfl, rfl⟩))
    (fun os started H enc _ => lifted os started H enc)
/-- The given statement. -/
theorem proved : Rows.OctetReadsSaid := over
end octetReads

end Go.Proofs.Ythaijdgaleifaaa
