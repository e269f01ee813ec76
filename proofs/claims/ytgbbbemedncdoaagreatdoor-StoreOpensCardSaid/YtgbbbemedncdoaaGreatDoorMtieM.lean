/- A store on a new device. The chapter's example of layer 16: its call answers true. Where a store is not opened. What the listed table holds when a call begins. -/
import Derived.Test.YtgbbbemedncdoaaGreatDoorSapM
import Derived.Test.YtgbbbemedncdoaaGreatDoorSnilM
import Derived.Test.YtgbbbemedncdoaaGreatDoorMbitsM
import Derived.Test.YtgbbbemedncdoaaGreatDoorFzeroZM
import Derived.LaidMore
import Derived.OpenShut
import Derived.Stop.Joined
namespace Go.Proofs.YtgbbbemedncdoaaGreatDoor
open Go.RowKit
set_option maxRecDepth 20000
theorem new_bytes (n : Nat) (x : Int) (k : Nat) : (Dv.new n).bytes x k = List.replicate (64 * k) 0 := by
  induction k with
  | zero => rfl
  | succ k ih =>
    rw [Dv.bytes, ih, show (Dv.new n).seen (x + k) = List.replicate 64 0 from rfl, List.replicate_append_replicate]
    rfl
theorem best_3 : (bestBy 3 (List.replicate (64 * (2 * 3)) 0)).2.1 = 0 := by kernel_rfl
theorem best_4 : (bestBy 4 (List.replicate (64 * (2 * 4)) 0)).2.1 = 0 := by kernel_rfl
theorem best_5 : (bestBy 5 (List.replicate (64 * (2 * 5)) 0)).2.1 = 0 := by kernel_rfl
theorem best_6 : (bestBy 6 (List.replicate (64 * (2 * 6)) 0)).2.1 = 0 := by kernel_rfl
theorem best_7 : (bestBy 7 (List.replicate (64 * (2 * 7)) 0)).2.1 = 0 := by kernel_rfl
theorem best_8 : (bestBy 8 (List.replicate (64 * (2 * 8)) 0)).2.1 = 0 := by kernel_rfl
theorem open_new (n : Nat) (base : Int) (z : Nat) (hz : 3 ≤ z ∧ z ≤ 8) : (openTv base z ((Dv.new n).bytes base (2 * z))).number = 0 := by
  rw [new_bytes]
  show (bestBy z (List.replicate (64 * (2 * z)) 0)).2.1 = 0
  obtain rfl | rfl | rfl | rfl | rfl | rfl : z = 3 ∨ z = 4 ∨ z = 5 ∨ z = 6 ∨ z = 7 ∨ z = 8 := by omega
  · exact best_3
  · exact best_4
  · exact best_5
  · exact best_6
  · exact best_7
  · exact best_8
theorem fit_new (n : Nat) (d : Dv) (base : Int) (h1 : 1 ≤ n) (h2 : n ≤ 64) (hb : 0 ≤ base) (hin : base + sNeed n ≤ d.n) : Fit d (Sv.fresh base n) (fun _ => none) (fun _ => none) where
  n1 := h1
  n64 := h2
  pn := fun _ _ h => by cases h
  ps := fun _ _ h => by cases h
  dn := fun _ _ h => by cases h
  ds := fun _ _ h => by cases h
  f0 := by simp only [Sv.fresh]; omega
  f1 := by
    have hneed : sNeed n = 2 * sSize n + (2 * n + 8) := rfl
    simp only [Sv.fresh]; omega
  B := by simp only [Sv.fresh]; omega
  gd := (⟨by decide, by decide, by decide⟩ : Gd 0 0)
  T := ⟨rfl, fun p hp => by obtain rfl := List.eq_of_mem_replicate hp; exact ⟨by decide, by decide⟩⟩
theorem dl_new (n : Nat) (w : World) (h1 : 1 ≤ n) (hn : n ≤ 65536) : Calls Tryz.prog 11 #[.int .i64 (n : Int)] w fun e w' => ∃ g, e = .returned (.pointer (some ⟨g, 0, none⟩)) ∧ Dl w w' w.heap.size g 0 (Dv.new n) := by
  refine (new_good n w h1 hn).mono ?_
  rintro e w' ⟨F, g, rfl, ⟨bs, bl, v, k, hD, hk, hF⟩, hb⟩
  have hk' : k + (Dv.new n).ws.length ≤ 0 := hk
  exact ⟨g, rfl, fun i => w.heap.size ≤ i, ⟨bs, bl, v, k, hD, hk', Nat.le_refl _, fun i hi => (hD.foot_lt hi).1⟩, fun i hi => hi, hb⟩
def X0 : Nat → Prop := fun _ => False
/-- A store is opened on a device that New made. -/
theorem sopen_new {w W : World} {B g M N : Nat} (h : Dlx X0 w W B g M (Dv.new N)) (base : Int) (n : Nat) (h1 : 1 ≤ n) (h2 : n ≤ 64) (hb : 0 ≤ base) (hin : base + sNeed n ≤ (N : Int)) :
    Calls Tryz.prog 10 #[.pointer (some ⟨g, 0, none⟩), .int .i64 base, .int .u32 (n : Int)] W fun e w' => ∃ T S bn bs t, e = .returned (.tuple #[.pointer (some ⟨S, 0, none⟩), .int .i64 0]) ∧
      Slx X0 w w' B g T S bn bs M 0 0 (Dv.new N) t (Sv.fresh base n) (fun _ => none) (fun _ => none) ∧ Below W.heap.size W w' := by
  refine (store_fresh h rfl base n h1 h2 hb hin (open_new N base (sSize n) (sSize_le h2 |>.imp_left fun h => h))).mono ?_
  rintro e w' ⟨T, S, bn, bs, rfl, hS, hB⟩
  exact ⟨T, S, bn, bs, _, rfl, hS, hB⟩
theorem sdone_nil (w : World) : Calls Tryz.prog 29 #[.pointer none] w fun e w' => e = .returned (tbv T0) ∧ Below w.heap.size w w' := by
  go_enter Tryz.func29, Tryz.ntmps29
  go_wp2_with (first
    | (refine tabA.wpNew rfl rfl ?_; intro W b hN; obtain ⟨hb, hr, hl, hz⟩ := hN)
    | (refine tabA.wpBuild rfl rfl ?_)
    | (refine tabA.wpStore (S := T0) (T := T0) rfl (.tmp 2) (.tmp 5) rfl rfl rfl hr.out rfl rfl ?_; intro W2 hr2 hg2 hz2)
    | fail)
  have hbw : w.heap.size ≤ b := by have := hb.out; omega
  refine bodyPost_ret (results_cell1 (fn := Tryz.f29) rfl _ (a := ⟨b, 0, none⟩) rfl (run_loadVar_row _ b 41 _ _ (0, 0) _ hr2.out tabA.und rfl (by rw [tabA.size]; simp [tcells_len, T0]))) rfl ⟨rfl, hl.grown hg2 hl.size (fun k e => by cases e; exact hbw)⟩
theorem sdone_any {w : World} {S : Nat} {g T : Option Addr} {bn bs : Option Nat} {v : Sv} (h : Srow w S g T bn bs v) : Calls Tryz.prog 29 #[.pointer (some ⟨S, 0, none⟩)] w fun e w' => e = .returned (tbv v.T) ∧ Below w.heap.size w w' := by
  have h8 := h.2
  have HH := Lib.hid h
  clear h
  go_enter Tryz.func29, Tryz.ntmps29
  go_wp2_with (first
    | (refine tabA.wpNew rfl rfl ?_; intro W b hN; obtain ⟨hb, hr, hl, hz⟩ := hN)
    | (refine wpList_load_mid rfl _ _ rfl S 6 rfl (tcells v.T) _ (HH.out.below hl).table Tryz.underlying41 rfl (by rw [tabA.size, tcells_len, h8]) ?_)
    | (refine tabA.wpStore (S := T0) (T := v.T) rfl (.tmp 2) (.tmp 9) rfl rfl rfl hr.out rfl h8 ?_; intro W2 hr2 hg2 hz2)
    | fail)
  have hbw : w.heap.size ≤ b := by have := hb.out; omega
  refine bodyPost_ret (results_cell1 (fn := Tryz.f29) rfl _ (a := ⟨b, 0, none⟩) rfl (run_loadVar_row _ b 41 _ _ (0, 0) _ hr2.out tabA.und rfl (by rw [tabA.size]; simp [tcells_len, h8]))) rfl ⟨rfl, hl.grown hg2 hl.size (fun k e => by cases e; exact hbw)⟩
end Go.Proofs.YtgbbbemedncdoaaGreatDoor

namespace Go.Proofs.YtgbbbemedncdoaaGreatDoor
open Go.RowKit
set_option maxRecDepth 20000

def lv8 : List UInt8 := [97, 98, 99, 100, 101, 102, 103, 104]
def lv16 : List UInt8 := [0, 0, 0, 0, 0, 0, 0, 0, 97, 98, 99, 100, 101, 102, 103, 104]
def eL : E16 := ⟨2, 0, 0, 1, 1, 5, 3, 1, lv8, none, 0, 0⟩
theorem eL_ok : eL.Ok := ⟨by decide, by decide, by decide, by decide, by decide, by decide, by decide, by decide, by decide⟩
theorem eL_why : whyNot (Sv.fresh 1 8) eL = 0 := by kernel_rfl
theorem first_18 : (Sv.fresh 1 8).first = 7 := by kernel_rfl
/-- What the example's store is behind its Apply. -/
structure LvIs (d : Dv) (v : Sv) (fn : SaysS) : Prop where
  up : d.down = false
  fits : FitsS d v fn
  n : v.n = 8
  txt : d.blks v.first fn 2 2 = lv16
  tok : Tok v.T
  done : at8 v.T 1 (fun p => hasN p 5) = true
  L : v.L < 18446744073709551616
  B : v.B < 18446744073709551616
  hs : Hs v.L v.B 2 = true
theorem tok_0 : Tok T0 := ⟨rfl, fun p hp => by obtain rfl := List.eq_of_mem_replicate hp; exact ⟨by decide, by decide⟩⟩
theorem tok_L : Tok (addT T0 1 5) := addT_ok tok_0 1 5 (by decide)
theorem mset_L : mset 0 0 2 = (0, 2) := by kernel_rfl
theorem L_L : (mset 0 0 2).1 < 18446744073709551616 := by rw [mset_L]; decide
theorem B_L : (mset 0 0 2).2 < 18446744073709551616 := by rw [mset_L]; decide
theorem lives_app {err : Int} {d' : Dv} {v' : Sv} {fn' : SaysS} (h : AppTo (Dv.new 40) (Sv.fresh 1 8) (fun _ => none) (fun _ => none) eL err d' v' fn') : err = 0 ∧ LvIs d' v' fn' := by
  have hr : Room 0 2 := ⟨by decide, by decide⟩
  rcases h with ⟨h, _⟩ | ⟨_, h, _⟩ | ⟨_, _, h, _⟩ | ⟨_, _, _, ats, ha, he, hd, h0, _⟩
  · exact absurd eL_why h
  · exact absurd hr h
  · exact absurd h (by decide)
  obtain ⟨k, hk, hk2, _⟩ := ha.at_ (i := 0) (by decide)
  have hk24 : k < 24 := hk2
  have hw : (Dv.new 40).wrs (Sv.fresh 1 8).first ats eL.data eL.c = (Dv.new 40).write ((Sv.fresh 1 8).first + ats.getD 0 0) lv8 1 := by kernel_rfl
  rw [first_18, hk, Dv.write_one _ rfl rfl _ _ (by decide)] at hw
  rw [first_18] at he hd
  rw [hw] at he hd
  have he : err = 0 := he
  have hd : d' = { Dv.new 40 with ws := [(7 + (k : Int), pad lv8)], done := 1 } := hd
  obtain ⟨rfl, rfl⟩ := h0 he
  subst hd
  have hf1 : ((Sv.fresh 1 8).done (addT (Sv.fresh 1 8).T eL.cl eL.rq) |>.mark (mset (Sv.fresh 1 8).L (Sv.fresh 1 8).B eL.ix).1 (mset (Sv.fresh 1 8).L (Sv.fresh 1 8).B eL.ix).2).first = 7 := first_18
  have hu : ∀ y : Int, upd (fun _ => none) eL.f ats eL.c y = if y = 3 then some (k : Int) else none := by
    intro y
    unfold upd
    show (if (3 : Int) ≤ y ∧ y < 3 + ((1 : Nat) : Int) then _ else none) = _
    by_cases hy : y = 3
    · subst hy
      rw [if_pos (by decide), if_pos rfl]
      exact congrArg some hk
    · rw [if_neg (by omega), if_neg hy]
  refine ⟨he, rfl, ⟨?_, ?_, ?_, ?_⟩, rfl, ?_, tok_L, by kernel_rfl, L_L, B_L, by kernel_rfl⟩
  · intro y x hx
    rw [hu] at hx
    rw [hf1]
    split at hx
    · cases hx
      refine ⟨by omega, ?_, by omega, by omega⟩
      show 7 + (k : Int) + 1 ≤ 40
      omega
    · cases hx
  · rw [hf1]; decide
  · rw [hf1]; show (7 : Int) ≤ 40; decide
  · exact (by decide : 8 ≤ 65536)
  · rw [hf1]
    generalize upd (fun _ => none) eL.f ats eL.c = fn at hu
    simp only [Dv.blks, Dv.blk, hu]
    have e2 : ¬ (((2 + 0 : Nat) : Int) = 3) := by decide
    have e3 : (((2 + 1 : Nat) : Int) = 3) := by decide
    rw [if_neg e2, if_pos e3]
    have hs : ({ Dv.new 40 with ws := [(7 + (k : Int), pad lv8)], done := 1 } : Dv).seen (7 + (k : Int)) = pad lv8 := by
      unfold Dv.seen
      have : lastOf ([] ++ [(7 + (k : Int), pad lv8)]) (7 + (k : Int)) = some (pad lv8) := by rw [lastOf_snoc]; simp
      show (lastOf [(7 + (k : Int), pad lv8)] (7 + (k : Int))).getD _ = _
      rw [List.nil_append] at this
      rw [this]
      rfl
    simp only [hs]
    rfl
theorem build_eL (w : World) : (Instr.build 47 #[(0, .int .u64 2), (3, .int .i64 1), (4, .int .u64 1), (5, .int .u64 5), (6, .agg #[.int .u32 3, .int .u32 1]), (7, .string (str lv8))]).run Tryz.prog w = .ok (.agg (e16cs eL).toArray) w := run_build w _ _ _ (by kernel_rfl)
set_option maxHeartbeats 1000000 in
theorem lives16 (w : World) (hT : Tab w) : Calls Tryz.prog 9 #[] w fun e w' => e = .returned (.bool true) ∧ Below w.heap.size w w' := by
  have HN := Lib.hid (dl_new 40 w (by decide) (by decide))
  have HT := Lib.hid hT
  clear hT
  go_enter Tryz.func9, Tryz.ntmps9
  go_wp2_with (first
    | (go_at_call 11; go_loud (refine HN.out.mono ?_); clear HN; rintro e w1 ⟨g, rfl, hD⟩
       have HO := Lib.hid (sopen_new (hD.dlx (X := X0) (Below.refl _ _) (fun _ h => h.elim)) 1 8 (by decide) (by decide) (by decide) (by decide)))
    | (go_at_call 10; go_loud (refine HO.out.mono ?_); clear HO; rintro e w2 ⟨T, S, bn, bs, t, rfl, hS, hB2⟩)
    | (refine wpL_bldv (by rfl) _ _ #[(0, .int .u64 2), (3, .int .i64 1), (4, .int .u64 1), (5, .int .u64 5), (6, .agg #[.int .u32 3, .int .u32 1]), (7, .string (str lv8))] rfl (by simp only [List.map_toArray, List.map_cons, List.map_nil]; rfl) _ build_eL ?_)
    | fail)
  have hBw := hS.tlx.bel
  refine (sapply_yes hS (fit_new 8 (Dv.new 40) 1 (by decide) (by decide) (by decide) (by decide)) (HT.out.below hBw) rfl (by decide) (by decide) eL eL_ok eL_why).mono ?_
  clear hS hB2 hD hBw
  rintro e w3 ⟨err, d', v', fn', rfl, hS3, _, hA⟩
  obtain ⟨rfl, hL⟩ := lives_app hA
  have HB3 := Lib.hid hS3.tlx.bel
  have hrd := sReads_good hS3 hL.fits 2 2 (by decide) (by decide) ⟨by decide, by rw [hL.n]; decide⟩ hL.up
  rw [hL.txt] at hrd
  have HRD := Lib.hid hrd
  have HROW := Lib.hid hS3.row
  have HLV := Lib.hid (And.intro hL.tok (And.intro hL.L hL.B))
  have HM := Lib.hid (fun W => has_any v'.L v'.B 2 W hL.L hL.B (by decide))
  have HH8 := Lib.hid (fun W => has8_any v'.T 1 5 W hL.tok (by decide))
  rw [hL.done] at HH8
  rw [hL.hs] at HM
  clear hA hS3 hL hrd
  have HSS := Lib.hid (fun W => ssectors_any 8 W)
  have q1 : ((str lv16).toList == (str lv16).toList) = true := beq_self_eq_true _
  have q1b : (str lv16).toList = lv16 := ByteArray.toList_mk _
  go_wp2_with (first
    | (go_at_call 25; go_loud (refine HRD.out.mono ?_); clear HRD; rintro e w4 ⟨rfl, hb4⟩
       have HB4 := Lib.hid (HB3.out.trans (hb4.mono HB3.out.size))
       have HR4 := Lib.hid (HROW.out.below hb4)
       clear hb4)
    | (go_at_call 22; go_loud (refine (HSS.out _).mono ?_); clear HSS; rintro e w5 ⟨rfl, rfl⟩)
    | (go_at_call 29; go_loud (refine (sdone_any HR4.out).mono ?_); rintro e w6 ⟨rfl, hb6⟩
       have HB6 := Lib.hid (HB4.out.trans (hb6.mono HB4.out.size))
       have HR6 := Lib.hid (HR4.out.below hb6)
       clear hb6)
    | (go_at_call 30; go_loud (refine (HH8.out _).mono ?_); clear HH8; rintro e w7 ⟨rfl, hb7⟩
       have HB7 := Lib.hid (HB6.out.trans (hb7.mono HB6.out.size))
       have HR7 := Lib.hid (HR6.out.below hb7)
       clear hb7)
    | (go_at_call 28; go_loud (refine (smarks_any HR7.out).mono ?_); rintro e w8 ⟨rfl, hb8⟩
       have HB8 := Lib.hid (HB7.out.trans (hb8.mono HB7.out.size))
       clear hb8)
    | (go_at_call 31; go_loud (refine (HM.out _).mono ?_); clear HM; rintro e w9 ⟨rfl, hb9⟩
       have HB9 := Lib.hid (HB8.out.trans (hb9.mono HB8.out.size))
       clear hb9)
    | fail)
  go_ret
  exact ⟨rfl, HB9.out⟩
end Go.Proofs.YtgbbbemedncdoaaGreatDoor

namespace Go.Proofs.YtgbbbemedncdoaaGreatDoor
open Go.RowKit
set_option maxRecDepth 20000

theorem new_bad (x : Int) (w : World) (h : ¬ (1 ≤ x ∧ x ≤ 65536)) : Calls Tryz.prog 11 #[.int .i64 x] w fun e w' => e = .returned (.pointer none) ∧ w = w' := by
  by_cases h1 : x < 1
  · have d1 : decide (x < 1) = true := by simpa using h1
    go_enter Tryz.func11, Tryz.ntmps11
    go_wp2
    go_ret
    exact ⟨rfl, rfl⟩
  · have d1 : decide (x < 1) = false := by simpa using h1
    have d2 : decide (65536 < x) = true := by simp; omega
    go_enter Tryz.func11, Tryz.ntmps11
    go_wp2
    go_ret
    exact ⟨rfl, rfl⟩
theorem sop_may (n : Nat) (hn : ¬ (1 ≤ n ∧ n ≤ 64)) (G : Option Addr) (base : Int) (w : World) :
    Calls Tryz.prog 10 #[.pointer G, .int .i64 base, .int .u32 (n : Int)] w fun e w' => e = .returned (.tuple #[.pointer none, .int .i64 30]) ∧ w = w' := by
  have hm := fun W => may_any n W
  rw [decide_eq_false hn] at hm
  have HM := Lib.hid hm
  clear hm hn
  go_enter Tryz.func10, Tryz.ntmps10
  go_wp2_with (first
    | (go_at_call 32; refine (HM.out _).mono ?_; rintro e w1 ⟨rfl, rfl⟩)
    | fail)
  go_ret2
  exact ⟨rfl, rfl⟩
/-- The twin is refused. -/
theorem sop_twin (n : Nat) (hn : 1 ≤ n ∧ n ≤ 64) (G : Option Addr) (base : Int) (w : World) (E : Int) (hE : E ≠ 0)
    (HR : ∀ s : Int, s = 2 * (sSize n : Int) → Calls Tryz.prog 68 #[.pointer G, .int .i64 base, .int .i64 s] w fun e w' => e = .returned (.tuple #[.slice none 0 0, .int .i64 E]) ∧ w = w') :
    Calls Tryz.prog 10 #[.pointer G, .int .i64 base, .int .u32 (n : Int)] w fun e w' => e = .returned (.tuple #[.pointer none, .int .i64 E]) ∧ w = w' := by
  have hm := fun W => may_any n W
  rw [decide_eq_true hn] at hm
  have HM := Lib.hid hm
  have hz := sSize_le hn.2
  have HSZ := Lib.hid (fun W => ssize_any n W hn.2)
  have HO := Lib.hid (twopen_refused (w := w) G base (sSize n) E hE (fun s hs => HR s (by
    rw [hs]
    simp [IntKind.wrap, IntKind.signed, IntKind.bits]
    omega)))
  have q1 : (E != 0) = true := by simpa using hE
  generalize sSize n = z at *
  clear hm hn hz HR
  go_enter Tryz.func10, Tryz.ntmps10
  go_wp2_with (first
    | (go_at_call 32; refine (HM.out _).mono ?_; rintro e w1 ⟨rfl, rfl⟩)
    | (go_at_call 34; refine (HSZ.out _).mono ?_; rintro e w1 ⟨rfl, rfl⟩)
    | (go_at_call 33; refine (HO.out).mono ?_; rintro e W1 ⟨rfl, rfl⟩)
    | fail)
  go_ret2
  exact ⟨rfl, rfl⟩
theorem sop_nil (n : Nat) (hn : 1 ≤ n ∧ n ≤ 64) (base : Int) (w : World) :
    Calls Tryz.prog 10 #[.pointer none, .int .i64 base, .int .u32 (n : Int)] w fun e w' => e = .returned (.tuple #[.pointer none, .int .i64 1]) ∧ w = w' :=
  sop_twin n hn none base w 1 (by decide) (fun s _ => read_nil base s w)
theorem Dlx.c4 {X : Nat → Prop} {w W : World} {B g M : Nat} {d : Dv} (h : Dlx X w W B g M d) : W.cell? ⟨g, 4, none⟩ = some (.bool d.down) := by obtain ⟨N, h, _⟩ := h; exact h.c4
set_option maxHeartbeats 1000000 in
/-- There is no room for it. -/
theorem sop_out {X : Nat → Prop} {w W : World} {B g M : Nat} {d : Dv} (h : Dlx X w W B g M d) (hd : d.down = false) (base : Int) (n : Nat) (hn : 1 ≤ n ∧ n ≤ 64) (hout : ¬ (0 ≤ base ∧ base + sNeed n ≤ d.n)) :
    Calls Tryz.prog 10 #[.pointer (some ⟨g, 0, none⟩), .int .i64 base, .int .u32 (n : Int)] W fun e w' => e = .returned (.tuple #[.pointer none, .int .i64 30]) ∧ Below W.heap.size W w' := by
  have hdn := h.ok.n
  have hz := sSize_le hn.2
  have hneed : sNeed n = 2 * sSize n + (2 * n + 8) := rfl
  by_cases h2 : 0 ≤ base ∧ base + 2 * sSize n ≤ d.n
  · have hm := fun W => may_any n W
    rw [decide_eq_true hn] at hm
    have hss := fun W => ssectors_any n W
    rw [if_pos hn] at hss
    have HM := Lib.hid hm
    have HSZ := Lib.hid (fun W => ssize_any n W hn.2)
    have HSS := Lib.hid hss
    have HO := Lib.hid (dlx_open h hd base (sSize n) (by omega) (by omega) h2.1 (by omega))
    generalize openTv base (sSize n) (d.bytes base (2 * sSize n)) = t at *
    have hn2 := hn.2
    generalize sSize n = z at *
    generalize sNeed n = need at *
    have q1 : decide ((d.n : Int) - (need : Int) < base) = true := by simp; omega
    have w1 : IntKind.i64.wrap ((d.n : Int) - (need : Int)) = (d.n : Int) - (need : Int) := by simp [IntKind.wrap, IntKind.signed, IntKind.bits]; omega
    clear hm hss hz hneed hn hn2 h2 hout h
    go_enter Tryz.func10, Tryz.ntmps10
    go_wp2_with (first
      | (go_at_call 32; refine (HM.out _).mono ?_; rintro e w1 ⟨rfl, rfl⟩)
      | (go_at_call 34; refine (HSZ.out _).mono ?_; rintro e w1 ⟨rfl, rfl⟩)
      | (go_at_call 33; refine (HO.out).mono ?_; rintro e W1 ⟨T, rfl, hT1, hb1⟩
         have HB1 := Lib.hid hb1
         have hc0 := hT1.dlx.c0
         have HDS := Lib.hid (dsectors_any hc0)
         clear hT1 hb1 hc0 HO)
      | (go_at_call 35; refine (HDS.out).mono ?_; rintro e w1 ⟨rfl, rfl⟩)
      | (go_at_call 22; refine (HSS.out _).mono ?_; rintro e w1 ⟨rfl, rfl⟩)
      | fail)
    go_ret2
    exact ⟨rfl, HB1.out⟩
  · refine (sop_twin n hn (some ⟨g, 0, none⟩) base W 30 (by decide) (fun s hs => read_out g d.n base s W h.c0 (by rw [← hd]; exact h.c4) hdn (by omega) ?_)).mono ?_
    · unfold withinB
      rw [decide_eq_false_iff_not]
      omega
    · rintro e w' ⟨rfl, rfl⟩
      exact ⟨rfl, Below.refl _ _⟩
end Go.Proofs.YtgbbbemedncdoaaGreatDoor

namespace Go.Proofs.YtgbbbemedncdoaaGreatDoor
open Go.ChangeShapes Go.WideShapes Go.ChangeAt Go.WideElems Go.RowKit

abbrev laidL : List (String × DataW Unit) := Rows.storeOpensRow.laid
def tabName : String := (laidL.map (·.1)).headD ""
theorem gTab : Tryz.prog.globalNamed tabName = some 0 := by kernel_rfl
theorem tTab : (Tryz.prog.globals[0]?).map (·.type) = some 98 := by kernel_rfl
theorem c5 : Tryz.prog.cellsOf 5 = 1 := by kernel_rfl

theorem of_laid {W : World} (h : laidMetH Tryz.prog laidL W) : Tab W := by
  rw [MakeChecks.laidMetH_plain _ _ _ (by kernel_rfl)] at h
  obtain ⟨ps, ⟨g0, t0, cs0, f0, p0, q0, hg0, ht0, hv0, hd0, _, _⟩, _, _⟩ := h
  obtain rfl := Option.some.inj (gTab.symm.trans hg0)
  obtain rfl := Option.some.inj (tTab.symm.trans ht0)
  obtain ⟨xs, m1, rfl, hx1, hlen, hn3, hel⟩ := DataW.trod_array Tryz.underlying98 hd0
  have hl : (Rows.laid_math_bits_deBruijn64tab : DataW Unit) = .agg (Lib.deBruijn64tab.map fun n => .lit (.int .u8 ((n : Nat) : Int))) := by kernel_rfl
  have ht64 : Lib.deBruijn64tab.length = 64 := by decide
  rw [hl] at hx1
  simp only [Prod.mk.injEq, DataW.agg.injEq] at hx1
  have key : ∀ j, j < 64 → W.cell? ⟨0, j, none⟩ = some (.int .u8 ((Lib.deBruijn64tab.getD j 0 : Nat) : Int)) := by
    intro j hj
    have h1 := hel j hj
    rw [c5, Nat.mul_one] at h1
    have hxj : xs[j]? = some xs[j] := List.getElem?_eq_getElem (by omega)
    obtain ⟨k, e1, e2, _⟩ := DataW.trod_int Tryz.underlying5 (h1.trans hxj)
    have hm : (xs.map (·.1))[j]? = some (.lit (.int .u8 ((Lib.deBruijn64tab.getD j 0 : Nat) : Int))) := by
      rw [← hx1.1, List.getElem?_map, List.getElem?_eq_getElem (by omega)]
      simp [List.getD, List.getElem?_eq_getElem (show j < Lib.deBruijn64tab.length by omega)]
    rw [List.getElem?_map, hxj, Option.map_some, e2] at hm
    simp only [Option.some.injEq, DataW.lit.injEq, Lit.int.injEq, true_and] at hm
    rw [World.var?_cell gTab hv0 j]
    have h2 : (List.take 1 (List.drop j cs0.toList))[0]? = some (.int .u8 k) := by rw [e1]; rfl
    rw [List.getElem?_take_of_lt (by decide), List.getElem?_drop, Nat.add_zero, Array.getElem?_toList] at h2
    rw [h2, hm]
  exact ⟨by simpa using World.block_lt_of_cell? W _ (key 0 (by decide)), key⟩

/-- The heap that the variables' own initialisers leave meets the condition. -/
theorem door_met (os : Os) (args : Array Value) : laidMetH Tryz.prog laidL ((World.doorLaid Tryz.prog 400 os).forCall (fun _ _ => 0) ⟨#[], args, []⟩).memory :=
  laidMetH_of_parts3 (fuel := 8) (laidMet_of_run' 8 (by kernel_rfl) (by kernel_rfl)) (by kernel_rfl) (by kernel_rfl)

theorem wf_u64 {x : Int} (h : (Lit.int .u64 x).wf = true) : ∃ n : Nat, x = (n : Int) ∧ n < 18446744073709551616 := by
  simp [Lit.wf, IntKind.min, IntKind.max, IntKind.signed, IntKind.bits] at h
  exact ⟨x.toNat, by omega, by omega⟩

end Go.Proofs.YtgbbbemedncdoaaGreatDoor
