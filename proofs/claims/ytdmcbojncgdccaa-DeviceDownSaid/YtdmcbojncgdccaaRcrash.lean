/- The reference device: the power comes again. -/
import Derived.Test.YtdmcbojncgdccaaRflush
namespace Go.Proofs.Ytdmcbojncgdccaa
open Go.RowKit

def Rv.crash1 (r : Rv) (ks : List Int) : Nat → Rv
  | 0 => r
  | i + 1 => match r.loose[i]? with
    | none => r.crash1 ks i
    | some p => (r.crash1 ks i).put p.1 (p.2.take (kept1 ks i) ++ ((r.crash1 ks i).safeOf p.1).drop (kept1 ks i))
def Rv.crash (r : Rv) (ks : List Int) : Rv := { r.crash1 ks r.loose.length with loose := [], down := false, fuse := -1 }
theorem Rv.crash1_rest (r : Rv) (ks : List Int) (i : Nat) : (r.crash1 ks i).loose = r.loose ∧ (r.crash1 ks i).n = r.n ∧ (r.crash1 ks i).done = r.done ∧ (r.crash1 ks i).safe.length ≤ r.safe.length + i := by
  induction i with
  | zero => exact ⟨rfl, rfl, rfl, Nat.le_refl _⟩
  | succ i ih =>
    obtain ⟨h1, h2, h3, h4⟩ := ih
    rw [Rv.crash1]
    split
    · exact ⟨h1, h2, h3, by omega⟩
    · rename_i p hp
      refine ⟨h1, h2, h3, ?_⟩
      have := (r.crash1 ks i).kept_le p.1
      simp only [Rv.put, List.length_append, List.length_cons, List.length_nil]
      omega

theorem str_cat (a b : List UInt8) : str a ++ str b = str (a ++ b) := by
  apply ByteArray.ext
  simp [str]
set_option maxHeartbeats 4000000 in
set_option maxRecDepth 8000 in
theorem rcrash_any {w : World} {B q : Nat} {vs vl : Value} {r : Rv} (h : Rdev w B q vs vl r) (hn : r.safe.length + r.loose.length ≤ 1000000) (Ak : Option Addr) (kn kc : Nat) (ks : List Int) (hl : Rd w w.heap.size 1 Ak kn kc (ks.map (Value.int .i64))) (hkn : kn ≤ 1000000) (hsep : 0 < kn → ∀ b o, Ak = some ⟨b, o, none⟩ → ¬ Rfoot q vs vl b) :
    Calls Try.prog 27 #[.pointer (some ⟨q, 0, none⟩), .slice Ak kn kc] w fun e w' => e = .returned (.tuple #[]) ∧ Rleft w B q vs vl (r.crash ks) w' := by
  obtain ⟨A, c, hvl, hrl⟩ := owns_slice h.loose
  obtain ⟨n, hnl⟩ : ∃ n, n = r.loose.length := ⟨_, rfl⟩
  rw [← hnl] at hvl hrl
  subst hvl
  have hft := fun i (hi : Rfoot q vs (.slice A n c) i) => (h.foot_lt hi).2
  have HFT := Lib.hid hft
  have HH := Lib.hid h
  have HRL := Lib.hid hrl
  have HKL := Lib.hid hl
  have HSEP := Lib.hid hsep
  have HN := Lib.hid hn
  have HNL := Lib.hid hnl
  have hni : (n : Int) ≤ 1000000 := by omega
  have hkni : (kn : Int) ≤ 1000000 := by omega
  clear h hrl hl hsep hn hnl hft hkn
  go_enter Try.func27, Try.ntmps27
  go_wp2
  go_loopw [4] (fun ir wr => ∃ (m : Nat) (vs' : Value), m ≤ n ∧ ir = .int .i64 (m : Int) ∧ Rdev wr B q vs' (.slice A n c) (r.crash1 ks m) ∧ Keeps (fun i => i = q) w wr ∧ ∀ k, vs'.ownBlock = some k → vs.ownBlock = some k ∨ w.heap.size ≤ k) (fun ir _ => n - (intOf ir).toNat)
  case atStart => exact ⟨0, vs, Nat.zero_le _, rfl, HH.out, Keeps.refl _ _, fun k hk => .inl hk⟩
  case round =>
    obtain ⟨m, vs', hm, rfl, hDr, hKr, hvs⟩ := hrel
    obtain ⟨hL, _, _, hlen⟩ := Rv.crash1_rest r ks m
    have c2 := hDr.c2
    by_cases hlt : m < n
    · obtain ⟨p, hp⟩ : ∃ p, r.loose[m]? = some p := ⟨_, List.getElem?_eq_getElem (by have := HNL.out; omega)⟩
      obtain ⟨h1, h2⟩ := rchs_get r.loose m p hp
      obtain ⟨A2, c2', hv2, hrd⟩ := owns_slice hDr.loose
      have hn2 : (r.crash1 ks m).loose.length = n := by rw [hL]; exact HNL.out.symm
      rw [hn2] at hv2 hrd
      cases hv2
      rw [hL] at hrd
      obtain ⟨b, o, rfl, hbb, hcc⟩ := hrd.2.2.2 (by omega)
      have hbq : b ≠ q := hDr.ql b rfl
      have k1 : wr.cell? ⟨b, o + m * 2, none⟩ = some (.int .i64 p.1) := by rw [Nat.mul_comm m 2]; exact hcc _ _ h1
      have k2 : wr.cell? ⟨b, o + m * 2 + 1, none⟩ = some (.string (str p.2)) := by rw [Nat.mul_comm m 2]; exact hcc _ _ h2
      have hp64 : p.2.length = 64 := HH.out.ok.loose p (List.mem_of_getElem? hp)
      have hkk : Rd wr w.heap.size 1 Ak kn kc (ks.map (Value.int .i64)) := HKL.out.stayn (fun h0 b o e hb => hKr.block b hb (fun e2 => HSEP.out h0 b o e (.inl e2)))
      have hkl : ks.length = kn := by have := hkk.len; rwa [List.length_map] at this
      obtain ⟨κ, hκ⟩ : ∃ κ, κ = kept1 ks m := ⟨_, rfl⟩
      have hκ64 : κ ≤ 64 := by rw [hκ]; exact kept1_le ks m
      have hmi : (m : Int) < (n : Int) := by omega
      have hmi2 : (m : Int) ≤ 1000000 := by omega
      have HD := Lib.hid hDr
      have HK := Lib.hid hKr
      have HV := Lib.hid hvs
      have HL := Lib.hid hL
      have HLE := Lib.hid hlen
      have HP := Lib.hid hp
      have HP64 := Lib.hid hp64
      have HKAP := Lib.hid hκ
      have H64 := Lib.hid hκ64
      by_cases hik : m < kn
      · obtain ⟨b2, o2, u, rfl, hbl2, hu, hc2⟩ := hkk.at_ hik
        simp only [List.getElem?_map, Option.map_eq_some_iff] at hu
        obtain ⟨z, hz, rfl⟩ := hu
        have e : (κ : Int) = min (max z 0) 64 := by rw [hκ]; simp only [kept1, hz]; omega
        have e1 : (if (if z < 0 then 0 else z) < 64 then (if z < 0 then 0 else z) else 64) = (κ : Int) := by rw [e]; split <;> split <;> omega
        have e2 : (min (64 : Int) (max 0 z)) = (κ : Int) := by rw [e]; omega
        have e3 : (min (max z 0) 64) = (κ : Int) := e.symm
        have hiki : (m : Int) < (kn : Int) := by omega
        clear e hz hDr hKr hvs hL hlen hp hp64 hcc h1 h2 hrd hn2 hkk hκ hkl hκ64
        go_wp2
        obtain ⟨W1, hW1⟩ : ∃ W, W = wr.alloc (.cells #[.int .i64 p.1, .string (str p.2)] 79) := ⟨_, rfl⟩
        obtain ⟨b6, hb6⟩ : ∃ b, b = wr.heap.size := ⟨_, rfl⟩
        have hr6 : W1.heap[b6]? = some (.cells #[.int .i64 p.1, .string (str p.2)] 79 (0, 0)) := by rw [hW1, hb6]; exact heap_alloc_new wr _
        have hb01 : Below wr.heap.size wr W1 := by rw [hW1]; exact (Below.refl _ _).alloc (Nat.le_refl _) _
        rw [← hW1, ← hb6]
        have hD1 := HD.out.below hb01
        have hqb : b6 ≠ q := by have := HD.out.lt; omega
        have s1 : W1.cell? ⟨b6, 0, none⟩ = some (.int .i64 p.1) := cell_of_row W1 b6 0 _ _ _ hr6
        have s2 : W1.cell? ⟨b6, 1, none⟩ = some (.string (str p.2)) := cell_of_row W1 b6 1 _ _ _ hr6
        have hsl : (r.crash1 ks m).safe.length ≤ 1000000000 := by have h3 := HLE.out; have h4 := HN.out; have h5 := HNL.out; omega
        have HD1 := Lib.hid hD1
        have HB01 := Lib.hid hb01
        have HSL := Lib.hid hsl
        have hz2 : (str p.2).size = 64 := by rw [str_size]; exact HP64.out
        have hκi : (κ : Int) ≤ 64 := by have := H64.out; omega
        have hκn : κ ≤ 64 := H64.out
        obtain ⟨sf, hsf⟩ : ∃ sf, sf = (r.crash1 ks m).safeOf p.1 := ⟨_, rfl⟩
        have hsf64 : sf.length = 64 := by rw [hsf]; exact Rv.safeOf_len HD.out.ok p.1
        have hz3 : (str sf).size = 64 := by rw [str_size]; exact hsf64
        have hsafe := fun (W : World) (hb : Below W1.heap.size W1 W) => rsafe_any (hD1.below hb) hsl p.1
        rw [← hsf] at hsafe
        have HSF := Lib.hid hsafe
        have HSFE := Lib.hid hsf
        have HSF64 := Lib.hid hsf64
        clear hW1 hr6 hb01 hD1 hsl hsafe hsf hsf64 hb6
        refine wp_segs [([0, 1, 2, 3, 4, 5, 6, 7, 8, 9, 11], 10), ([12, 13], 14)] [] (fun x => Keeps (fun i => i = q) W1 x) (by kernel_rfl) (by kernel_rfl) (fun d _ _ _ _ h => by cases d <;> exact h) (Keeps.refl _ _).drew ?_
        intro f hf
        have F1 := fun z => (hf z).cell s1 hqb
        have F2 := fun z => (hf z).cell s2 hqb
        simp only [pickI, Option.toList_some, List.cons_append, List.nil_append, List.getElem?_toArray, List.getElem?_cons_succ, List.getElem?_cons_zero]
        repeat (go_big_quiet_step (fail))
        refine wpQuiet_nil ?_
        clear F1 F2 hf f
        refine seg_op (by simp only [List.getElem?_toArray, List.getElem?_cons_succ, List.getElem?_cons_zero]; rfl) fun K hK => ?_
        go_simp
        refine (HSF.out _ (Below.refl _ _).drew).mono ?_
        rintro e w5 ⟨rfl, hb5⟩
        have hb15 : Below W1.heap.size W1 w5 := undrew hb5
        refine hK.out _ _ (seg_keep (Keeps.of_below hb15) ?_)
        clear hK K
        try go_frame
        intro f hf
        simp only [pickI, Option.toList_some, List.cons_append, List.nil_append, List.getElem?_toArray, List.getElem?_cons_succ, List.getElem?_cons_zero]
        repeat (go_big_quiet_step (fail))
        refine wpQuiet_nil ?_
        clear hf f
        refine seg_op (by simp only [List.getElem?_toArray, List.getElem?_cons_succ, List.getElem?_cons_zero]; rfl) fun K hK => ?_
        go_simp
        have hT : (str p.2).extract 0 κ ++ (str sf).extract κ 64 = str (p.2.take κ ++ sf.drop κ) := by
          rw [str_take, show (64 : Nat) = sf.length from HSF64.out.symm, str_drop, str_cat]
        rw [hT]
        have hT64 : (p.2.take κ ++ sf.drop κ).length = 64 := by rw [List.length_append, List.length_take, List.length_drop, HP64.out, HSF64.out]; omega
        refine (rput_any (HD1.out.below hb15) HSL.out p.1 _ hT64).mono ?_
        rintro e w6 ⟨rfl, vs6, hD6, hK6, hv6⟩
        refine hK.out _ _ (seg_keep ((Keeps.of_below hb15).trans hK6 (fun i hi => .inl hi)) ?_)
        clear hK K
        try go_frame
        intro f hf
        refine wpQuiet_nil ?_
        clear hf f
        have hst : r.crash1 ks (m + 1) = (r.crash1 ks m).put p.1 (p.2.take κ ++ sf.drop κ) := by
          rw [Rv.crash1, HP.out]
          simp only
          rw [HSFE.out, HKAP.out]
        have HST := Lib.hid hst
        clear hst
        go_wp2
        go_roundw
        case rel => exact ⟨m + 1, vs6, by omega, by go_num, by rw [HST.out]; exact hD6, ((HK.out.trans (Keeps.of_below (F := fun _ => False) HB01.out) (fun i hi => hi.elim)).trans (Keeps.of_below (F := fun _ => False) hb15) (fun i hi => hi.elim)).trans hK6 (fun i hi => .inl hi), fun k hk => .inr (by
          have e1 := hv6 k hk
          have e3 := HK.out.size
          have e4 := HB01.out.size
          have e5 := hb15.size
          omega)⟩
        case measure => simp [intOf]; omega
      · have e : κ = 0 := by rw [hκ]; unfold kept1; rw [List.getElem?_eq_none (by omega)]
        subst e
        have hiki : ¬ (m : Int) < (kn : Int) := by omega
        clear hDr hKr hvs hL hlen hp hp64 hcc h1 h2 hrd hn2 hkk hκ hkl hκ64
        go_wp2
        obtain ⟨W1, hW1⟩ : ∃ W, W = wr.alloc (.cells #[.int .i64 p.1, .string (str p.2)] 79) := ⟨_, rfl⟩
        obtain ⟨b6, hb6⟩ : ∃ b, b = wr.heap.size := ⟨_, rfl⟩
        have hr6 : W1.heap[b6]? = some (.cells #[.int .i64 p.1, .string (str p.2)] 79 (0, 0)) := by rw [hW1, hb6]; exact heap_alloc_new wr _
        have hb01 : Below wr.heap.size wr W1 := by rw [hW1]; exact (Below.refl _ _).alloc (Nat.le_refl _) _
        rw [← hW1, ← hb6]
        have hD1 := HD.out.below hb01
        have hqb : b6 ≠ q := by have := HD.out.lt; omega
        have s1 : W1.cell? ⟨b6, 0, none⟩ = some (.int .i64 p.1) := cell_of_row W1 b6 0 _ _ _ hr6
        have s2 : W1.cell? ⟨b6, 1, none⟩ = some (.string (str p.2)) := cell_of_row W1 b6 1 _ _ _ hr6
        have hsl : (r.crash1 ks m).safe.length ≤ 1000000000 := by have h3 := HLE.out; have h4 := HN.out; have h5 := HNL.out; omega
        have HD1 := Lib.hid hD1
        have HB01 := Lib.hid hb01
        have HSL := Lib.hid hsl
        have hz2 : (str p.2).size = 64 := by rw [str_size]; exact HP64.out
        obtain ⟨sf, hsf⟩ : ∃ sf, sf = (r.crash1 ks m).safeOf p.1 := ⟨_, rfl⟩
        have hsf64 : sf.length = 64 := by rw [hsf]; exact Rv.safeOf_len HD.out.ok p.1
        have hz3 : (str sf).size = 64 := by rw [str_size]; exact hsf64
        have hsafe := fun (W : World) (hb : Below W1.heap.size W1 W) => rsafe_any (hD1.below hb) hsl p.1
        rw [← hsf] at hsafe
        have HSF := Lib.hid hsafe
        have HSFE := Lib.hid hsf
        have HSF64 := Lib.hid hsf64
        clear hW1 hr6 hb01 hD1 hsl hsafe hsf hsf64 hb6
        refine wp_segs [([0, 1, 2, 3, 4, 5, 6, 7, 8, 9, 11], 10), ([12, 13], 14)] [] (fun x => Keeps (fun i => i = q) W1 x) (by kernel_rfl) (by kernel_rfl) (fun d _ _ _ _ h => by cases d <;> exact h) (Keeps.refl _ _).drew ?_
        intro f hf
        have F1 := fun z => (hf z).cell s1 hqb
        have F2 := fun z => (hf z).cell s2 hqb
        simp only [pickI, Option.toList_some, List.cons_append, List.nil_append, List.getElem?_toArray, List.getElem?_cons_succ, List.getElem?_cons_zero]
        repeat (go_big_quiet_step (fail))
        refine wpQuiet_nil ?_
        clear F1 F2 hf f
        refine seg_op (by simp only [List.getElem?_toArray, List.getElem?_cons_succ, List.getElem?_cons_zero]; rfl) fun K hK => ?_
        go_simp
        refine (HSF.out _ (Below.refl _ _).drew).mono ?_
        rintro e w5 ⟨rfl, hb5⟩
        have hb15 : Below W1.heap.size W1 w5 := undrew hb5
        refine hK.out _ _ (seg_keep (Keeps.of_below hb15) ?_)
        clear hK K
        try go_frame
        intro f hf
        simp only [pickI, Option.toList_some, List.cons_append, List.nil_append, List.getElem?_toArray, List.getElem?_cons_succ, List.getElem?_cons_zero]
        repeat (go_big_quiet_step (fail))
        refine wpQuiet_nil ?_
        clear hf f
        refine seg_op (by simp only [List.getElem?_toArray, List.getElem?_cons_succ, List.getElem?_cons_zero]; rfl) fun K hK => ?_
        go_simp
        have hT : (str sf).extract 0 64 = str (p.2.take 0 ++ sf.drop 0) := by
          rw [show (64 : Nat) = sf.length from HSF64.out.symm, str_drop]
          rfl
        rw [hT]
        have hT64 : (p.2.take 0 ++ sf.drop 0).length = 64 := by rw [List.length_append, List.length_take, List.length_drop, HP64.out, HSF64.out]; omega
        refine (rput_any (HD1.out.below hb15) HSL.out p.1 _ hT64).mono ?_
        rintro e w6 ⟨rfl, vs6, hD6, hK6, hv6⟩
        refine hK.out _ _ (seg_keep ((Keeps.of_below hb15).trans hK6 (fun i hi => .inl hi)) ?_)
        clear hK K
        try go_frame
        intro f hf
        refine wpQuiet_nil ?_
        clear hf f
        have hst : r.crash1 ks (m + 1) = (r.crash1 ks m).put p.1 (p.2.take 0 ++ sf.drop 0) := by
          rw [Rv.crash1, HP.out]
          simp only
          rw [HSFE.out, HKAP.out]
        have HST := Lib.hid hst
        clear hst
        go_wp2
        go_roundw
        case rel => exact ⟨m + 1, vs6, by omega, by go_num, by rw [HST.out]; exact hD6, ((HK.out.trans (Keeps.of_below (F := fun _ => False) HB01.out) (fun i hi => hi.elim)).trans (Keeps.of_below (F := fun _ => False) hb15) (fun i hi => hi.elim)).trans hK6 (fun i hi => .inl hi), fun k hk => .inr (by
          have e1 := hv6 k hk
          have e3 := HK.out.size
          have e4 := HB01.out.size
          have e5 := hb15.size
          omega)⟩
        case measure => simp [intOf]; omega
    · obtain rfl : m = n := by omega
      have f2 := hDr.free 2
      have f3 := hDr.free 3
      have f4 := hDr.free 4
      have c3 := hDr.c3
      have c4 := hDr.c4
      have HD := Lib.hid hDr
      have HK := Lib.hid hKr
      have HV := Lib.hid hvs
      clear hDr hKr hvs hL hlen
      go_wp2
      have hrow := set_row (set_row (set_row HD.out.row 2 (.slice none 0 0)) 3 (.bool false)) 4 (.int .i64 (-1))
      have hg : wr.grownBy (((wr.setCell ⟨q, 2, none⟩ (.slice none 0 0)).setCell ⟨q, 3, none⟩ (.bool false)).setCell ⟨q, 4, none⟩ (.int .i64 (-1))) (some q) := grownBy_tr (grownBy_tr (setCell_grows wr q 2 _) (setCell_grows _ q 3 _)) (setCell_grows _ q 4 _)
      have hfin := HD.out.empty (r1 := r.crash ks) (by rw [hrow]; unfold Rv.crash; rw [← HNL.out]; rfl) hg (by unfold Rv.crash; rw [← HNL.out]) rfl ⟨HD.out.ok.n |> fun h => by unfold Rv.crash; rw [← HNL.out]; exact h, by unfold Rv.crash; rw [← HNL.out]; exact HD.out.ok.safe, (fun p hp => by cases hp), by show (-1 : Int) ≤ -1 ∧ (-1 : Int) ≤ _; omega⟩
      go_returns
      refine ⟨rfl, vs', .slice none 0 0, hfin, (HK.out.grown hg (fun k e => .inl (Option.some.inj e).symm)).wide (fun i hi => .inl hi), fun i hi => ?_⟩
      rcases hi with hi | hi | hi
      · exact .inl (.inl hi)
      · rcases HV.out i hi with h1 | h1
        · exact .inl (.inr (.inl h1))
        · exact .inr h1
      · cases hi

end Go.Proofs.Ytdmcbojncgdccaa
