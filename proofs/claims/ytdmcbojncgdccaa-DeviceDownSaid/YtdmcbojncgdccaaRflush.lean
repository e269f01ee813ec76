/- The reference device: what is flushed. -/
import Derived.Test.YtdmcbojncgdccaaRput
namespace Go.Proofs.Ytdmcbojncgdccaa
open Go.RowKit

def Rv.puts (r : Rv) (l : List (Int × List UInt8)) : Rv := l.foldl (fun r p => r.put p.1 p.2) r
theorem Rv.puts_snoc (r : Rv) (l : List (Int × List UInt8)) (p : Int × List UInt8) : r.puts (l ++ [p]) = (r.puts l).put p.1 p.2 := by simp [Rv.puts, List.foldl_append]
theorem Rv.puts_step (r : Rv) (l : List (Int × List UInt8)) (m : Nat) (p : Int × List UInt8) (h : l[m]? = some p) : r.puts (l.take (m + 1)) = (r.puts (l.take m)).put p.1 p.2 := by
  obtain ⟨hl, rfl⟩ := List.getElem?_eq_some_iff.1 h
  rw [List.take_succ_eq_append_getElem hl, Rv.puts_snoc]
theorem Rv.puts_rest (l : List (Int × List UInt8)) : ∀ (r : Rv), (r.puts l).loose = r.loose ∧ (r.puts l).n = r.n ∧ (r.puts l).down = r.down ∧ (r.puts l).fuse = r.fuse ∧ (r.puts l).done = r.done ∧ (r.puts l).safe.length ≤ r.safe.length + l.length := by
  induction l with
  | nil => intro r; exact ⟨rfl, rfl, rfl, rfl, rfl, Nat.le_refl _⟩
  | cons p l ih =>
    intro r
    obtain ⟨h1, h2, h3, h4, h5, h6⟩ := ih (r.put p.1 p.2)
    refine ⟨h1, h2, h3, h4, h5, Nat.le_trans h6 ?_⟩
    have := r.kept_le p.1
    simp only [Rv.put, List.length_append, List.length_cons, List.length_nil]
    omega
def Rv.emptied (r : Rv) : Rv := { r with loose := [] }
theorem Rv.Ok.emptied {r : Rv} (h : r.Ok) : r.emptied.Ok := ⟨h.n, h.safe, (fun p hp => by cases hp), h.fuse⟩
def Rv.flush (r : Rv) : Rv × Int := if r.down = true then (r, 50) else if r.blow.down = true then (r.blow, 50) else ((r.blow.puts r.loose).emptied, 0)
/-- What waits is forgotten. -/
theorem Rdev.empty {w w' : World} {B q : Nat} {vs vl : Value} {r r1 : Rv} (h : Rdev w B q vs vl r) (hrow : w'.heap[q]? = some (.cells (rrow r1 vs (.slice none 0 0)) 57 (0, 0))) (hg : w.grownBy w' (some q)) (hS : r1.safe = r.safe) (hL : r1.loose = []) (ho : r1.Ok) : Rdev w' B q vs (.slice none 0 0) r1 := by
  refine ⟨hrow, ?_, ?_, h.qs, (fun k e => by cases e), (fun k _ e => by cases e), h.hq, ho⟩
  · rw [hS]; exact ownsRow_kp h.safe (Keeps.one hg) (fun i hi hf => h.qs i hi hf)
  · rw [hL]; exact World.ownsRow_nil _ _ _ _
theorem Keeps.drew0 {F : Nat → Prop} {w w' : World} (h : Keeps F w.drew w') : Keeps F w w' := ⟨h.os, h.tape, h.output, h.size, h.block⟩
/-- What a call leaves of a reference device. -/
def Rleft (w : World) (B q : Nat) (vs vl : Value) (r : Rv) (w' : World) : Prop := ∃ vs' vl', Rdev w' B q vs' vl' r ∧ Keeps (Rfoot q vs vl) w w' ∧ ∀ i, Rfoot q vs' vl' i → Rfoot q vs vl i ∨ w.heap.size ≤ i

set_option maxHeartbeats 4000000 in
set_option maxRecDepth 8000 in
theorem rflush_any {w : World} {B q : Nat} {vs vl : Value} {r : Rv} (h : Rdev w B q vs vl r) (hn : r.safe.length + r.loose.length ≤ 1000000000) (hd : r.done ≤ 1000000000) :
    Calls Try.prog 26 #[.pointer (some ⟨q, 0, none⟩)] w fun e w' => e = .returned (.int .i64 r.flush.2) ∧ Rleft w B q vs vl r.flush.1 w' := by
  have c3 := h.c3
  by_cases hdn : r.down = true
  · have hfl : r.flush = (r, 50) := by unfold Rv.flush; rw [if_pos hdn]
    rw [hfl]
    rw [hdn] at c3
    have HH := Lib.hid h
    clear h hfl hdn hn hd
    go_enter Try.func26, Try.ntmps26
    go_wp2
    go_ret
    exact ⟨rfl, vs, vl, HH.out, Keeps.refl _ _, fun i hi => .inl hi⟩
  · have hd0 : r.down = false := by simpa using hdn
    rw [hd0] at c3
    have hbl := rblown_any h hd
    by_cases hsd : r.blow.down = true
    · have hfl : r.flush = (r.blow, 50) := by unfold Rv.flush; rw [if_neg hdn, if_pos hsd]
      rw [hfl]
      rw [hsd] at hbl
      have HB := Lib.hid hbl
      clear h hfl hdn hn hd hbl hsd hd0
      go_enter Try.func26, Try.ntmps26
      go_wp2_with (first
        | (go_at_call 43; refine HB.out.mono ?_; rintro e w1 ⟨rfl, hD1, hg1⟩)
        | fail)
      go_ret
      exact ⟨rfl, vs, vl, hD1, (Keeps.one hg1).wide (fun i hi => .inl hi), fun i hi => .inl hi⟩
    · have hfl : r.flush = ((r.blow.puts r.loose).emptied, 0) := by unfold Rv.flush; rw [if_neg hdn, if_neg hsd]
      have hsd' : r.blow.down = false := by simpa using hsd
      rw [hfl]
      rw [hsd'] at hbl
      obtain ⟨r1, hr1⟩ : ∃ r1, r1 = r.blow := ⟨_, rfl⟩
      have hlo : r.loose = r1.loose := by rw [hr1]; rfl
      have hsl : r1.safe.length + r1.loose.length ≤ 1000000000 := by rw [hr1]; exact hn
      rw [← hr1] at hbl ⊢
      rw [hlo]
      obtain ⟨n, hnl⟩ : ∃ n, n = r1.loose.length := ⟨_, rfl⟩
      have HB := Lib.hid hbl
      have HN := Lib.hid hsl
      have HNL := Lib.hid hnl
      have hqB := fun i (hi : Rfoot q vs vl i) => (h.foot_lt hi).2
      have HFT := Lib.hid hqB
      have hni : (n : Int) ≤ 1000000000 := by omega
      clear h hfl hdn hn hd hbl hsd hsd' hd0 hlo hsl hqB hr1 hnl
      go_enter Try.func26, Try.ntmps26
      go_wp2_with (first
        | (go_at_call 43; refine HB.out.mono ?_; rintro e w1 ⟨rfl, hD1, hg1⟩; have HD1 := Lib.hid hD1; have HG1 := Lib.hid hg1; clear hD1 hg1)
        | fail)
      obtain ⟨A, c, hvl, hrl0⟩ := owns_slice HD1.out.loose
      rw [← HNL.out] at hvl hrl0
      subst hvl
      have HRL := Lib.hid hrl0
      clear hrl0
      go_loopw [3] (fun ir wr => ∃ (m : Nat) (vs' : Value), m ≤ n ∧ ir = .int .i64 (m : Int) ∧ Rdev wr B q vs' (.slice A n c) (r1.puts (r1.loose.take m)) ∧ Keeps (fun i => i = q) w1 wr ∧ ∀ k, vs'.ownBlock = some k → vs.ownBlock = some k ∨ w.heap.size ≤ k) (fun ir _ => n - (intOf ir).toNat)
      case atStart => exact ⟨0, vs, Nat.zero_le _, rfl, HD1.out, Keeps.refl _ _, fun k hk => .inl hk⟩
      case round =>
        obtain ⟨m, vs', hm, rfl, hDr, hKr, hvs⟩ := hrel
        obtain ⟨hL, _, _, _, _, hlen⟩ := Rv.puts_rest (r1.loose.take m) r1
        have c2 := hDr.c2
        have HD := Lib.hid hDr
        have HK := Lib.hid hKr
        have HV := Lib.hid hvs
        have HL := Lib.hid hL
        have HLE := Lib.hid hlen
        clear hDr hKr hvs hL hlen
        by_cases hlt : m < n
        · obtain ⟨p, hp⟩ : ∃ p, r1.loose[m]? = some p := ⟨_, List.getElem?_eq_getElem (by have := HNL.out; omega)⟩
          obtain ⟨h1, h2⟩ := rchs_get r1.loose m p hp
          obtain ⟨A2, c2', hv2, hrd⟩ := owns_slice HD.out.loose
          have hn2 : (r1.puts (r1.loose.take m)).loose.length = n := by rw [HL.out]; exact HNL.out.symm
          rw [hn2] at hv2 hrd
          cases hv2
          rw [HL.out] at hrd
          obtain ⟨b, o, rfl, hbb, hcc⟩ := hrd.2.2.2 (by omega)
          have hbq : b ≠ q := HD.out.ql b rfl
          have k1 : wr.cell? ⟨b, o + m * 2, none⟩ = some (.int .i64 p.1) := by rw [Nat.mul_comm m 2]; exact hcc _ _ h1
          have k2 : wr.cell? ⟨b, o + m * 2 + 1, none⟩ = some (.string (str p.2)) := by rw [Nat.mul_comm m 2]; exact hcc _ _ h2
          have hst := Rv.puts_step r1 r1.loose m p hp
          have hp64 : p.2.length = 64 := HD1.out.ok.loose p (List.mem_of_getElem? hp)
          have hlen2 : (r1.puts (r1.loose.take m)).safe.length ≤ 1000000000 := by
            have h3 := HLE.out
            have h4 := HN.out
            rw [List.length_take] at h3
            omega
          have hput := fun (W : World) (hb : Below wr.heap.size wr W) => rput_any (HD.out.below hb) hlen2 p.1 p.2 hp64
          have HP := Lib.hid hput
          have HST := Lib.hid hst
          have hlti : (m : Int) < (n : Int) := by omega
          clear hput hst hcc h1 h2 hrd hn2 hp64 hp
          go_wp2
          refine wp_segs [([0, 1, 2, 3, 4, 5, 6, 7, 8, 9, 10, 11, 12, 13, 14, 15, 16], 17)] [] (fun x => Keeps (fun i => i = q) wr x ∧ x.cell? ⟨q, 2, none⟩ = some (.slice (some ⟨b, o, none⟩) n c)) (by kernel_rfl) (by kernel_rfl) (fun d _ _ _ _ h => by cases d <;> exact h) ⟨(Keeps.refl _ _).drew, c2⟩ ?_
          intro f hf
          have F1 := fun z => (hf z).2
          have F2 := fun z => (hf z).1.cell k1 hbq
          have F3 := fun z => (hf z).1.cell k2 hbq
          simp only [pickI, Option.toList_some, List.cons_append, List.nil_append, List.getElem?_toArray, List.getElem?_cons_succ, List.getElem?_cons_zero]
          repeat (go_big_quiet_step (fail))
          refine wpQuiet_nil ?_
          clear F1 F2 F3 hf f
          refine seg_op (by simp only [List.getElem?_toArray, List.getElem?_cons_succ, List.getElem?_cons_zero]; rfl) fun K hK => ?_
          go_simp
          refine (HP.out _ (Below.refl _ _).drew).mono ?_
          rintro e w5 ⟨rfl, vs5, hD5, hK5, hv5⟩
          have hK15 : Keeps (fun i => i = q) wr w5 := hK5.drew0
          refine hK.out _ _ (seg_keep ⟨hK15, hD5.c2⟩ ?_)
          clear hK K
          try go_frame
          intro f hf
          refine wpQuiet_nil ?_
          clear hf f
          go_wp2
          go_roundw
          case rel => exact ⟨m + 1, vs5, by omega, by go_num, by rw [HST.out]; exact hD5, HK.out.trans hK15 (fun i hi => .inl hi), fun k hk => .inr (by
            have e1 := hv5 k hk
            have e2 : wr.heap.size ≤ k := e1
            have e3 := HK.out.size
            have e4 := HG1.out.size
            omega)⟩
          case measure => simp [intOf]; omega
        · obtain rfl : m = n := by omega
          have f2 := HD.out.free 2
          have hpt : r1.puts (r1.loose.take m) = r1.puts r1.loose := by rw [List.take_of_length_le (by have := HNL.out; omega)]
          have HPT := Lib.hid hpt
          clear hpt
          go_wp2
          go_ret
          have hrow := set_row HD.out.row 2 (.slice none 0 0)
          have hD := HD.out
          rw [HPT.out] at hrow hD
          have hg := setCell_grows wr q 2 (.slice none 0 0)
          have hfin := hD.empty (r1 := (r1.puts r1.loose).emptied) hrow hg rfl rfl hD.ok.emptied
          have hKf : Keeps (fun i => i = q) w (wr.setCell ⟨q, 2, none⟩ (.slice none 0 0)) := ((Keeps.one HG1.out).trans HK.out (fun i hi => .inl hi)).grown hg (fun k e => .inl (Option.some.inj e).symm)
          refine ⟨rfl, vs', .slice none 0 0, hfin, hKf.wide (fun i hi => .inl hi), fun i hi => ?_⟩
          rcases hi with hi | hi | hi
          · exact .inl (.inl hi)
          · rcases HV.out i hi with h1 | h1
            · exact .inl (.inr (.inl h1))
            · exact .inr h1
          · cases hi

end Go.Proofs.Ytdmcbojncgdccaa
