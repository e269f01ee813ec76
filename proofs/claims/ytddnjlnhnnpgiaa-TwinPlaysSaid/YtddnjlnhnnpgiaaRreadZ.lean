/- The reference device: what is flushed. The reference device: the power comes again. The reference device: what is read. -/
import Derived.Test.YtddnjlnhnnpgiaaRputZ
namespace Go.Proofs.Ytddnjlnhnnpgiaa
set_option maxRecDepth 20000
open Go.RowKit

def Rv.puts (r : Rv) (l : List (Int × List UInt8)) : Rv := l.foldl (fun r p => r.put p.1 p.2) r
theorem Rv.puts_snoc (r : Rv) (l : List (Int × List UInt8)) (p : Int × List UInt8) : r.puts (l ++ [p]) = (r.puts l).put p.1 p.2 := by simp [Rv.puts, List.foldl_append]
theorem Rv.puts_step (r : Rv) (l : List (Int × List UInt8)) (m : Nat) (p : Int × List UInt8) (h : l[m]? = some p) : r.puts (l.take (m + 1)) = (r.puts (l.take m)).put p.1 p.2 := by
  obtain ⟨hl, rfl⟩ := List.getElem?_eq_some_iff.1 h
  rw [List.take_succ_eq_append_getElem hl, Rv.puts_snoc]
theorem Rv.puts_rest (l : List (Int × List UInt8)) : ∀ (r : Rv), (r.puts l).loose = r.loose ∧ (r.puts l).n = r.n ∧ (r.puts l).down = r.down ∧ (r.puts l).fuse = r.fuse ∧ (r.puts l).done = r.done ∧ (r.puts l).safe.length ≤ r.safe.length + l.length := by
  induction l with
  | nil => intro r; exact ⟨rfl, rfl, rfl, rfl, rfl, Nat.le_refl _⟩
  | cons p l ih =>
    intro r
    obtain ⟨h1, h2, h3, h4, h5, h6⟩ := ih (r.put p.1 p.2)
    refine ⟨h1, h2, h3, h4, h5, Nat.le_trans h6 ?_⟩
    have := r.kept_le p.1
    simp only [Rv.put, List.length_append, List.length_cons, List.length_nil]
    omega
def Rv.emptied (r : Rv) : Rv := { r with loose := [] }
theorem Rv.Ok.emptied {r : Rv} (h : r.Ok) : r.emptied.Ok := ⟨h.n, h.safe, (fun p hp => by cases hp), h.fuse⟩
def Rv.flush (r : Rv) : Rv × Int := if r.down = true then (r, 50) else if r.blow.down = true then (r.blow, 50) else ((r.blow.puts r.loose).emptied, 0)
/-- What waits is forgotten. -/
theorem Rdev.empty {w w' : World} {B q : Nat} {vs vl : Value} {r r1 : Rv} (h : Rdev w B q vs vl r) (hrow : w'.heap[q]? = some (.cells (rrow r1 vs (.slice none 0 0)) 77 (0, 0))) (hg : w.grownBy w' (some q)) (hS : r1.safe = r.safe) (hL : r1.loose = []) (ho : r1.Ok) : Rdev w' B q vs (.slice none 0 0) r1 := by
  refine ⟨hrow, ?_, ?_, h.qs, (fun k e => by cases e), (fun k _ e => by cases e), h.hq, ho⟩
  · rw [hS]; exact ownsRow_kp h.safe (Keeps.one hg) (fun i hi hf => h.qs i hi hf)
  · rw [hL]; exact World.ownsRow_nil _ _ _ _
theorem Keeps.drew0 {F : Nat → Prop} {w w' : World} (h : Keeps F w.drew w') : Keeps F w w' := ⟨h.os, h.tape, h.output, h.size, h.block⟩
/-- What a call leaves of a reference device. -/
def Rleft (w : World) (B q : Nat) (vs vl : Value) (r : Rv) (w' : World) : Prop := ∃ vs' vl', Rdev w' B q vs' vl' r ∧ Keeps (Rfoot q vs vl) w w' ∧ ∀ i, Rfoot q vs' vl' i → Rfoot q vs vl i ∨ w.heap.size ≤ i

set_option maxHeartbeats 4000000 in
set_option maxRecDepth 8000 in
theorem rflush_any {w : World} {B q : Nat} {vs vl : Value} {r : Rv} (h : Rdev w B q vs vl r) (hn : r.safe.length + r.loose.length ≤ 1000000000) (hd : r.done ≤ 1000000000) :
    Calls Try.prog 37 #[.pointer (some ⟨q, 0, none⟩)] w fun e w' => e = .returned (.int .i64 r.flush.2) ∧ Rleft w B q vs vl r.flush.1 w' := by
  have c3 := h.c3
  by_cases hdn : r.down = true
  · have hfl : r.flush = (r, 50) := by unfold Rv.flush; rw [if_pos hdn]
    rw [hfl]
    rw [hdn] at c3
    have HH := Lib.hid h
    clear h hfl hdn hn hd
    go_enter Try.func37, Try.ntmps37
    go_wp2
    go_ret
    exact ⟨rfl, vs, vl, HH.out, Keeps.refl _ _, fun i hi => .inl hi⟩
  · have hd0 : r.down = false := by simpa using hdn
    rw [hd0] at c3
    have hbl := rblown_any h hd
    by_cases hsd : r.blow.down = true
    · have hfl : r.flush = (r.blow, 50) := by unfold Rv.flush; rw [if_neg hdn, if_pos hsd]
      rw [hfl]
      rw [hsd] at hbl
      have HB := Lib.hid hbl
      clear h hfl hdn hn hd hbl hsd hd0
      go_enter Try.func37, Try.ntmps37
      go_wp2_with (first
        | (go_at_call 62; refine HB.out.mono ?_; rintro e w1 ⟨rfl, hD1, hg1⟩)
        | fail)
      go_ret
      exact ⟨rfl, vs, vl, hD1, (Keeps.one hg1).wide (fun i hi => .inl hi), fun i hi => .inl hi⟩
    · have hfl : r.flush = ((r.blow.puts r.loose).emptied, 0) := by unfold Rv.flush; rw [if_neg hdn, if_neg hsd]
      have hsd' : r.blow.down = false := by simpa using hsd
      rw [hfl]
      rw [hsd'] at hbl
      obtain ⟨r1, hr1⟩ : ∃ r1, r1 = r.blow := ⟨_, rfl⟩
      have hlo : r.loose = r1.loose := by rw [hr1]; rfl
      have hsl : r1.safe.length + r1.loose.length ≤ 1000000000 := by rw [hr1]; exact hn
      rw [← hr1] at hbl ⊢
      rw [hlo]
      obtain ⟨n, hnl⟩ : ∃ n, n = r1.loose.length := ⟨_, rfl⟩
      have HB := Lib.hid hbl
      have HN := Lib.hid hsl
      have HNL := Lib.hid hnl
      have hqB := fun i (hi : Rfoot q vs vl i) => (h.foot_lt hi).2
      have HFT := Lib.hid hqB
      have hni : (n : Int) ≤ 1000000000 := by omega
      clear h hfl hdn hn hd hbl hsd hsd' hd0 hlo hsl hqB hr1 hnl
      go_enter Try.func37, Try.ntmps37
      go_wp2_with (first
        | (go_at_call 62; refine HB.out.mono ?_; rintro e w1 ⟨rfl, hD1, hg1⟩; have HD1 := Lib.hid hD1; have HG1 := Lib.hid hg1; clear hD1 hg1)
        | fail)
      obtain ⟨A, c, hvl, hrl0⟩ := owns_slice HD1.out.loose
      rw [← HNL.out] at hvl hrl0
      subst hvl
      have HRL := Lib.hid hrl0
      clear hrl0
      go_loopw [3] (fun ir wr => ∃ (m : Nat) (vs' : Value), m ≤ n ∧ ir = .int .i64 (m : Int) ∧ Rdev wr B q vs' (.slice A n c) (r1.puts (r1.loose.take m)) ∧ Keeps (fun i => i = q) w1 wr ∧ ∀ k, vs'.ownBlock = some k → vs.ownBlock = some k ∨ w.heap.size ≤ k) (fun ir _ => n - (intOf ir).toNat)
      case atStart => exact ⟨0, vs, Nat.zero_le _, rfl, HD1.out, Keeps.refl _ _, fun k hk => .inl hk⟩
      case round =>
        obtain ⟨m, vs', hm, rfl, hDr, hKr, hvs⟩ := hrel
        obtain ⟨hL, _, _, _, _, hlen⟩ := Rv.puts_rest (r1.loose.take m) r1
        have c2 := hDr.c2
        have HD := Lib.hid hDr
        have HK := Lib.hid hKr
        have HV := Lib.hid hvs
        have HL := Lib.hid hL
        have HLE := Lib.hid hlen
        clear hDr hKr hvs hL hlen
        by_cases hlt : m < n
        · obtain ⟨p, hp⟩ : ∃ p, r1.loose[m]? = some p := ⟨_, List.getElem?_eq_getElem (by have := HNL.out; omega)⟩
          obtain ⟨h1, h2⟩ := rchs_get r1.loose m p hp
          obtain ⟨A2, c2', hv2, hrd⟩ := owns_slice HD.out.loose
          have hn2 : (r1.puts (r1.loose.take m)).loose.length = n := by rw [HL.out]; exact HNL.out.symm
          rw [hn2] at hv2 hrd
          cases hv2
          rw [HL.out] at hrd
          obtain ⟨b, o, rfl, hbb, hcc⟩ := hrd.2.2.2 (by omega)
          have hbq : b ≠ q := HD.out.ql b rfl
          have k1 : wr.cell? ⟨b, o + m * 2, none⟩ = some (.int .i64 p.1) := by rw [Nat.mul_comm m 2]; exact hcc _ _ h1
          have k2 : wr.cell? ⟨b, o + m * 2 + 1, none⟩ = some (.string (str p.2)) := by rw [Nat.mul_comm m 2]; exact hcc _ _ h2
          have hst := Rv.puts_step r1 r1.loose m p hp
          have hp64 : p.2.length = 64 := HD1.out.ok.loose p (List.mem_of_getElem? hp)
          have hlen2 : (r1.puts (r1.loose.take m)).safe.length ≤ 1000000000 := by
            have h3 := HLE.out
            have h4 := HN.out
            rw [List.length_take] at h3
            omega
          have hput := fun (W : World) (hb : Below wr.heap.size wr W) => rput_any (HD.out.below hb) hlen2 p.1 p.2 hp64
          have HP := Lib.hid hput
          have HST := Lib.hid hst
          have hlti : (m : Int) < (n : Int) := by omega
          clear hput hst hcc h1 h2 hrd hn2 hp64 hp
          go_wp2
          refine wp_segs [([0, 1, 2, 3, 4, 5, 6, 7, 8, 9, 10, 11, 12, 13, 14, 15, 16], 17)] [] (fun x => Keeps (fun i => i = q) wr x ∧ x.cell? ⟨q, 2, none⟩ = some (.slice (some ⟨b, o, none⟩) n c)) (by kernel_rfl) (by kernel_rfl) (fun d _ _ _ _ h => by cases d <;> exact h) ⟨(Keeps.refl _ _).drew, c2⟩ ?_
          intro f hf
          have F1 := fun z => (hf z).2
          have F2 := fun z => (hf z).1.cell k1 hbq
          have F3 := fun z => (hf z).1.cell k2 hbq
          simp only [pickI, Option.toList_some, List.cons_append, List.nil_append, List.getElem?_toArray, List.getElem?_cons_succ, List.getElem?_cons_zero]
          repeat (go_big_quiet_step (fail))
          refine wpQuiet_nil ?_
          clear F1 F2 F3 hf f
          refine seg_op (by simp only [List.getElem?_toArray, List.getElem?_cons_succ, List.getElem?_cons_zero]; rfl) fun K hK => ?_
          go_simp
          refine (HP.out _ (Below.refl _ _).drew).mono ?_
          rintro e w5 ⟨rfl, vs5, hD5, hK5, hv5⟩
          have hK15 : Keeps (fun i => i = q) wr w5 := hK5.drew0
          refine hK.out _ _ (seg_keep ⟨hK15, hD5.c2⟩ ?_)
          clear hK K
          try go_frame
          intro f hf
          refine wpQuiet_nil ?_
          clear hf f
          go_wp2
          go_roundw
          case rel => exact ⟨m + 1, vs5, by omega, by go_num, by rw [HST.out]; exact hD5, HK.out.trans hK15 (fun i hi => .inl hi), fun k hk => .inr (by
            have e1 := hv5 k hk
            have e2 : wr.heap.size ≤ k := e1
            have e3 := HK.out.size
            have e4 := HG1.out.size
            omega)⟩
          case measure => simp [intOf]; omega
        · obtain rfl : m = n := by omega
          have f2 := HD.out.free 2
          have hpt : r1.puts (r1.loose.take m) = r1.puts r1.loose := by rw [List.take_of_length_le (by have := HNL.out; omega)]
          have HPT := Lib.hid hpt
          clear hpt
          go_wp2
          go_ret
          have hrow := set_row HD.out.row 2 (.slice none 0 0)
          have hD := HD.out
          rw [HPT.out] at hrow hD
          have hg := setCell_grows wr q 2 (.slice none 0 0)
          have hfin := hD.empty (r1 := (r1.puts r1.loose).emptied) hrow hg rfl rfl hD.ok.emptied
          have hKf : Keeps (fun i => i = q) w (wr.setCell ⟨q, 2, none⟩ (.slice none 0 0)) := ((Keeps.one HG1.out).trans HK.out (fun i hi => .inl hi)).grown hg (fun k e => .inl (Option.some.inj e).symm)
          refine ⟨rfl, vs', .slice none 0 0, hfin, hKf.wide (fun i hi => .inl hi), fun i hi => ?_⟩
          rcases hi with hi | hi | hi
          · exact .inl (.inl hi)
          · rcases HV.out i hi with h1 | h1
            · exact .inl (.inr (.inl h1))
            · exact .inr h1
          · cases hi

end Go.Proofs.Ytddnjlnhnnpgiaa

namespace Go.Proofs.Ytddnjlnhnnpgiaa
set_option maxRecDepth 20000
open Go.RowKit

def Rv.crash1 (r : Rv) (ks : List Int) : Nat → Rv
  | 0 => r
  | i + 1 => match r.loose[i]? with
    | none => r.crash1 ks i
    | some p => (r.crash1 ks i).put p.1 (p.2.take (kept1 ks i) ++ ((r.crash1 ks i).safeOf p.1).drop (kept1 ks i))
def Rv.crash (r : Rv) (ks : List Int) : Rv := { r.crash1 ks r.loose.length with loose := [], down := false, fuse := -1 }
theorem Rv.crash1_rest (r : Rv) (ks : List Int) (i : Nat) : (r.crash1 ks i).loose = r.loose ∧ (r.crash1 ks i).n = r.n ∧ (r.crash1 ks i).done = r.done ∧ (r.crash1 ks i).safe.length ≤ r.safe.length + i := by
  induction i with
  | zero => exact ⟨rfl, rfl, rfl, Nat.le_refl _⟩
  | succ i ih =>
    obtain ⟨h1, h2, h3, h4⟩ := ih
    rw [Rv.crash1]
    split
    · exact ⟨h1, h2, h3, by omega⟩
    · rename_i p hp
      refine ⟨h1, h2, h3, ?_⟩
      have := (r.crash1 ks i).kept_le p.1
      simp only [Rv.put, List.length_append, List.length_cons, List.length_nil]
      omega

theorem str_cat (a b : List UInt8) : str a ++ str b = str (a ++ b) := by
  apply ByteArray.ext
  simp [str]
set_option maxHeartbeats 4000000 in
set_option maxRecDepth 8000 in
theorem rcrash_any {w : World} {B q : Nat} {vs vl : Value} {r : Rv} (h : Rdev w B q vs vl r) (hn : r.safe.length + r.loose.length ≤ 1000000) (Ak : Option Addr) (kn kc : Nat) (ks : List Int) (hl : Rd w w.heap.size 1 Ak kn kc (ks.map (Value.int .i64))) (hkn : kn ≤ 1000000) (hsep : 0 < kn → ∀ b o, Ak = some ⟨b, o, none⟩ → ¬ Rfoot q vs vl b) :
    Calls Try.prog 18 #[.pointer (some ⟨q, 0, none⟩), .slice Ak kn kc] w fun e w' => e = .returned (.tuple #[]) ∧ Rleft w B q vs vl (r.crash ks) w' := by
  obtain ⟨A, c, hvl, hrl⟩ := owns_slice h.loose
  obtain ⟨n, hnl⟩ : ∃ n, n = r.loose.length := ⟨_, rfl⟩
  rw [← hnl] at hvl hrl
  subst hvl
  have hft := fun i (hi : Rfoot q vs (.slice A n c) i) => (h.foot_lt hi).2
  have HFT := Lib.hid hft
  have HH := Lib.hid h
  have HRL := Lib.hid hrl
  have HKL := Lib.hid hl
  have HSEP := Lib.hid hsep
  have HN := Lib.hid hn
  have HNL := Lib.hid hnl
  have hni : (n : Int) ≤ 1000000 := by omega
  have hkni : (kn : Int) ≤ 1000000 := by omega
  clear h hrl hl hsep hn hnl hft hkn
  go_enter Try.func18, Try.ntmps18
  go_wp2
  go_loopw [4] (fun ir wr => ∃ (m : Nat) (vs' : Value), m ≤ n ∧ ir = .int .i64 (m : Int) ∧ Rdev wr B q vs' (.slice A n c) (r.crash1 ks m) ∧ Keeps (fun i => i = q) w wr ∧ ∀ k, vs'.ownBlock = some k → vs.ownBlock = some k ∨ w.heap.size ≤ k) (fun ir _ => n - (intOf ir).toNat)
  case atStart => exact ⟨0, vs, Nat.zero_le _, rfl, HH.out, Keeps.refl _ _, fun k hk => .inl hk⟩
  case round =>
    obtain ⟨m, vs', hm, rfl, hDr, hKr, hvs⟩ := hrel
    obtain ⟨hL, _, _, hlen⟩ := Rv.crash1_rest r ks m
    have c2 := hDr.c2
    by_cases hlt : m < n
    · obtain ⟨p, hp⟩ : ∃ p, r.loose[m]? = some p := ⟨_, List.getElem?_eq_getElem (by have := HNL.out; omega)⟩
      obtain ⟨h1, h2⟩ := rchs_get r.loose m p hp
      obtain ⟨A2, c2', hv2, hrd⟩ := owns_slice hDr.loose
      have hn2 : (r.crash1 ks m).loose.length = n := by rw [hL]; exact HNL.out.symm
      rw [hn2] at hv2 hrd
      cases hv2
      rw [hL] at hrd
      obtain ⟨b, o, rfl, hbb, hcc⟩ := hrd.2.2.2 (by omega)
      have hbq : b ≠ q := hDr.ql b rfl
      have k1 : wr.cell? ⟨b, o + m * 2, none⟩ = some (.int .i64 p.1) := by rw [Nat.mul_comm m 2]; exact hcc _ _ h1
      have k2 : wr.cell? ⟨b, o + m * 2 + 1, none⟩ = some (.string (str p.2)) := by rw [Nat.mul_comm m 2]; exact hcc _ _ h2
      have hp64 : p.2.length = 64 := HH.out.ok.loose p (List.mem_of_getElem? hp)
      have hkk : Rd wr w.heap.size 1 Ak kn kc (ks.map (Value.int .i64)) := HKL.out.stayn (fun h0 b o e hb => hKr.block b hb (fun e2 => HSEP.out h0 b o e (.inl e2)))
      have hkl : ks.length = kn := by have := hkk.len; rwa [List.length_map] at this
      obtain ⟨κ, hκ⟩ : ∃ κ, κ = kept1 ks m := ⟨_, rfl⟩
      have hκ64 : κ ≤ 64 := by rw [hκ]; exact kept1_le ks m
      have hmi : (m : Int) < (n : Int) := by omega
      have hmi2 : (m : Int) ≤ 1000000 := by omega
      have HD := Lib.hid hDr
      have HK := Lib.hid hKr
      have HV := Lib.hid hvs
      have HL := Lib.hid hL
      have HLE := Lib.hid hlen
      have HP := Lib.hid hp
      have HP64 := Lib.hid hp64
      have HKAP := Lib.hid hκ
      have H64 := Lib.hid hκ64
      by_cases hik : m < kn
      · obtain ⟨b2, o2, u, rfl, hbl2, hu, hc2⟩ := hkk.at_ hik
        simp only [List.getElem?_map, Option.map_eq_some_iff] at hu
        obtain ⟨z, hz, rfl⟩ := hu
        have e : (κ : Int) = min (max z 0) 64 := by rw [hκ]; simp only [kept1, hz]; omega
        have e1 : (if (if z < 0 then 0 else z) < 64 then (if z < 0 then 0 else z) else 64) = (κ : Int) := by rw [e]; split <;> split <;> omega
        have e2 : (min (64 : Int) (max 0 z)) = (κ : Int) := by rw [e]; omega
        have e3 : (min (max z 0) 64) = (κ : Int) := e.symm
        have hiki : (m : Int) < (kn : Int) := by omega
        clear e hz hDr hKr hvs hL hlen hp hp64 hcc h1 h2 hrd hn2 hkk hκ hkl hκ64
        go_wp2
        obtain ⟨W1, hW1⟩ : ∃ W, W = wr.alloc (.cells #[.int .i64 p.1, .string (str p.2)] 99) := ⟨_, rfl⟩
        obtain ⟨b6, hb6⟩ : ∃ b, b = wr.heap.size := ⟨_, rfl⟩
        have hr6 : W1.heap[b6]? = some (.cells #[.int .i64 p.1, .string (str p.2)] 99 (0, 0)) := by rw [hW1, hb6]; exact heap_alloc_new wr _
        have hb01 : Below wr.heap.size wr W1 := by rw [hW1]; exact (Below.refl _ _).alloc (Nat.le_refl _) _
        rw [← hW1, ← hb6]
        have hD1 := HD.out.below hb01
        have hqb : b6 ≠ q := by have := HD.out.lt; omega
        have s1 : W1.cell? ⟨b6, 0, none⟩ = some (.int .i64 p.1) := cell_of_row W1 b6 0 _ _ _ hr6
        have s2 : W1.cell? ⟨b6, 1, none⟩ = some (.string (str p.2)) := cell_of_row W1 b6 1 _ _ _ hr6
        have hsl : (r.crash1 ks m).safe.length ≤ 1000000000 := by have h3 := HLE.out; have h4 := HN.out; have h5 := HNL.out; omega
        have HD1 := Lib.hid hD1
        have HB01 := Lib.hid hb01
        have HSL := Lib.hid hsl
        have hz2 : (str p.2).size = 64 := by rw [str_size]; exact HP64.out
        have hκi : (κ : Int) ≤ 64 := by have := H64.out; omega
        have hκn : κ ≤ 64 := H64.out
        obtain ⟨sf, hsf⟩ : ∃ sf, sf = (r.crash1 ks m).safeOf p.1 := ⟨_, rfl⟩
        have hsf64 : sf.length = 64 := by rw [hsf]; exact Rv.safeOf_len HD.out.ok p.1
        have hz3 : (str sf).size = 64 := by rw [str_size]; exact hsf64
        have hsafe := fun (W : World) (hb : Below W1.heap.size W1 W) => rsafe_any (hD1.below hb) hsl p.1
        rw [← hsf] at hsafe
        have HSF := Lib.hid hsafe
        have HSFE := Lib.hid hsf
        have HSF64 := Lib.hid hsf64
        clear hW1 hr6 hb01 hD1 hsl hsafe hsf hsf64 hb6
        refine wp_segs [([0, 1, 2, 3, 4, 5, 6, 7, 8, 9, 11], 10), ([12, 13], 14)] [] (fun x => Keeps (fun i => i = q) W1 x) (by kernel_rfl) (by kernel_rfl) (fun d _ _ _ _ h => by cases d <;> exact h) (Keeps.refl _ _).drew ?_
        intro f hf
        have F1 := fun z => (hf z).cell s1 hqb
        have F2 := fun z => (hf z).cell s2 hqb
        simp only [pickI, Option.toList_some, List.cons_append, List.nil_append, List.getElem?_toArray, List.getElem?_cons_succ, List.getElem?_cons_zero]
        repeat (go_big_quiet_step (fail))
        refine wpQuiet_nil ?_
        clear F1 F2 hf f
        refine seg_op (by simp only [List.getElem?_toArray, List.getElem?_cons_succ, List.getElem?_cons_zero]; rfl) fun K hK => ?_
        go_simp
        refine (HSF.out _ (Below.refl _ _).drew).mono ?_
        rintro e w5 ⟨rfl, hb5⟩
        have hb15 : Below W1.heap.size W1 w5 := undrew hb5
        refine hK.out _ _ (seg_keep (Keeps.of_below hb15) ?_)
        clear hK K
        try go_frame
        intro f hf
        simp only [pickI, Option.toList_some, List.cons_append, List.nil_append, List.getElem?_toArray, List.getElem?_cons_succ, List.getElem?_cons_zero]
        repeat (go_big_quiet_step (fail))
        refine wpQuiet_nil ?_
        clear hf f
        refine seg_op (by simp only [List.getElem?_toArray, List.getElem?_cons_succ, List.getElem?_cons_zero]; rfl) fun K hK => ?_
        go_simp
        have hT : (str p.2).extract 0 κ ++ (str sf).extract κ 64 = str (p.2.take κ ++ sf.drop κ) := by
          rw [str_take, show (64 : Nat) = sf.length from HSF64.out.symm, str_drop, str_cat]
        rw [hT]
        have hT64 : (p.2.take κ ++ sf.drop κ).length = 64 := by rw [List.length_append, List.length_take, List.length_drop, HP64.out, HSF64.out]; omega
        refine (rput_any (HD1.out.below hb15) HSL.out p.1 _ hT64).mono ?_
        rintro e w6 ⟨rfl, vs6, hD6, hK6, hv6⟩
        refine hK.out _ _ (seg_keep ((Keeps.of_below hb15).trans hK6 (fun i hi => .inl hi)) ?_)
        clear hK K
        try go_frame
        intro f hf
        refine wpQuiet_nil ?_
        clear hf f
        have hst : r.crash1 ks (m + 1) = (r.crash1 ks m).put p.1 (p.2.take κ ++ sf.drop κ) := by
          rw [Rv.crash1, HP.out]
          simp only
          rw [HSFE.out, HKAP.out]
        have HST := Lib.hid hst
        clear hst
        go_wp2
        go_roundw
        case rel => exact ⟨m + 1, vs6, by omega, by go_num, by rw [HST.out]; exact hD6, ((HK.out.trans (Keeps.of_below (F := fun _ => False) HB01.out) (fun i hi => hi.elim)).trans (Keeps.of_below (F := fun _ => False) hb15) (fun i hi => hi.elim)).trans hK6 (fun i hi => .inl hi), fun k hk => .inr (by
          have e1 := hv6 k hk
          have e3 := HK.out.size
          have e4 := HB01.out.size
          have e5 := hb15.size
          omega)⟩
        case measure => simp [intOf]; omega
      · have e : κ = 0 := by rw [hκ]; unfold kept1; rw [List.getElem?_eq_none (by omega)]
        subst e
        have hiki : ¬ (m : Int) < (kn : Int) := by omega
        clear hDr hKr hvs hL hlen hp hp64 hcc h1 h2 hrd hn2 hkk hκ hkl hκ64
        go_wp2
        obtain ⟨W1, hW1⟩ : ∃ W, W = wr.alloc (.cells #[.int .i64 p.1, .string (str p.2)] 99) := ⟨_, rfl⟩
        obtain ⟨b6, hb6⟩ : ∃ b, b = wr.heap.size := ⟨_, rfl⟩
        have hr6 : W1.heap[b6]? = some (.cells #[.int .i64 p.1, .string (str p.2)] 99 (0, 0)) := by rw [hW1, hb6]; exact heap_alloc_new wr _
        have hb01 : Below wr.heap.size wr W1 := by rw [hW1]; exact (Below.refl _ _).alloc (Nat.le_refl _) _
        rw [← hW1, ← hb6]
        have hD1 := HD.out.below hb01
        have hqb : b6 ≠ q := by have := HD.out.lt; omega
        have s1 : W1.cell? ⟨b6, 0, none⟩ = some (.int .i64 p.1) := cell_of_row W1 b6 0 _ _ _ hr6
        have s2 : W1.cell? ⟨b6, 1, none⟩ = some (.string (str p.2)) := cell_of_row W1 b6 1 _ _ _ hr6
        have hsl : (r.crash1 ks m).safe.length ≤ 1000000000 := by have h3 := HLE.out; have h4 := HN.out; have h5 := HNL.out; omega
        have HD1 := Lib.hid hD1
        have HB01 := Lib.hid hb01
        have HSL := Lib.hid hsl
        have hz2 : (str p.2).size = 64 := by rw [str_size]; exact HP64.out
        obtain ⟨sf, hsf⟩ : ∃ sf, sf = (r.crash1 ks m).safeOf p.1 := ⟨_, rfl⟩
        have hsf64 : sf.length = 64 := by rw [hsf]; exact Rv.safeOf_len HD.out.ok p.1
        have hz3 : (str sf).size = 64 := by rw [str_size]; exact hsf64
        have hsafe := fun (W : World) (hb : Below W1.heap.size W1 W) => rsafe_any (hD1.below hb) hsl p.1
        rw [← hsf] at hsafe
        have HSF := Lib.hid hsafe
        have HSFE := Lib.hid hsf
        have HSF64 := Lib.hid hsf64
        clear hW1 hr6 hb01 hD1 hsl hsafe hsf hsf64 hb6
        refine wp_segs [([0, 1, 2, 3, 4, 5, 6, 7, 8, 9, 11], 10), ([12, 13], 14)] [] (fun x => Keeps (fun i => i = q) W1 x) (by kernel_rfl) (by kernel_rfl) (fun d _ _ _ _ h => by cases d <;> exact h) (Keeps.refl _ _).drew ?_
        intro f hf
        have F1 := fun z => (hf z).cell s1 hqb
        have F2 := fun z => (hf z).cell s2 hqb
        simp only [pickI, Option.toList_some, List.cons_append, List.nil_append, List.getElem?_toArray, List.getElem?_cons_succ, List.getElem?_cons_zero]
        repeat (go_big_quiet_step (fail))
        refine wpQuiet_nil ?_
        clear F1 F2 hf f
        refine seg_op (by simp only [List.getElem?_toArray, List.getElem?_cons_succ, List.getElem?_cons_zero]; rfl) fun K hK => ?_
        go_simp
        refine (HSF.out _ (Below.refl _ _).drew).mono ?_
        rintro e w5 ⟨rfl, hb5⟩
        have hb15 : Below W1.heap.size W1 w5 := undrew hb5
        refine hK.out _ _ (seg_keep (Keeps.of_below hb15) ?_)
        clear hK K
        try go_frame
        intro f hf
        simp only [pickI, Option.toList_some, List.cons_append, List.nil_append, List.getElem?_toArray, List.getElem?_cons_succ, List.getElem?_cons_zero]
        repeat (go_big_quiet_step (fail))
        refine wpQuiet_nil ?_
        clear hf f
        refine seg_op (by simp only [List.getElem?_toArray, List.getElem?_cons_succ, List.getElem?_cons_zero]; rfl) fun K hK => ?_
        go_simp
        have hT : (str sf).extract 0 64 = str (p.2.take 0 ++ sf.drop 0) := by
          rw [show (64 : Nat) = sf.length from HSF64.out.symm, str_drop]
          rfl
        rw [hT]
        have hT64 : (p.2.take 0 ++ sf.drop 0).length = 64 := by rw [List.length_append, List.length_take, List.length_drop, HP64.out, HSF64.out]; omega
        refine (rput_any (HD1.out.below hb15) HSL.out p.1 _ hT64).mono ?_
        rintro e w6 ⟨rfl, vs6, hD6, hK6, hv6⟩
        refine hK.out _ _ (seg_keep ((Keeps.of_below hb15).trans hK6 (fun i hi => .inl hi)) ?_)
        clear hK K
        try go_frame
        intro f hf
        refine wpQuiet_nil ?_
        clear hf f
        have hst : r.crash1 ks (m + 1) = (r.crash1 ks m).put p.1 (p.2.take 0 ++ sf.drop 0) := by
          rw [Rv.crash1, HP.out]
          simp only
          rw [HSFE.out, HKAP.out]
        have HST := Lib.hid hst
        clear hst
        go_wp2
        go_roundw
        case rel => exact ⟨m + 1, vs6, by omega, by go_num, by rw [HST.out]; exact hD6, ((HK.out.trans (Keeps.of_below (F := fun _ => False) HB01.out) (fun i hi => hi.elim)).trans (Keeps.of_below (F := fun _ => False) hb15) (fun i hi => hi.elim)).trans hK6 (fun i hi => .inl hi), fun k hk => .inr (by
          have e1 := hv6 k hk
          have e3 := HK.out.size
          have e4 := HB01.out.size
          have e5 := hb15.size
          omega)⟩
        case measure => simp [intOf]; omega
    · obtain rfl : m = n := by omega
      have f2 := hDr.free 2
      have f3 := hDr.free 3
      have f4 := hDr.free 4
      have c3 := hDr.c3
      have c4 := hDr.c4
      have HD := Lib.hid hDr
      have HK := Lib.hid hKr
      have HV := Lib.hid hvs
      clear hDr hKr hvs hL hlen
      go_wp2
      have hrow := set_row (set_row (set_row HD.out.row 2 (.slice none 0 0)) 3 (.bool false)) 4 (.int .i64 (-1))
      have hg : wr.grownBy (((wr.setCell ⟨q, 2, none⟩ (.slice none 0 0)).setCell ⟨q, 3, none⟩ (.bool false)).setCell ⟨q, 4, none⟩ (.int .i64 (-1))) (some q) := grownBy_tr (grownBy_tr (setCell_grows wr q 2 _) (setCell_grows _ q 3 _)) (setCell_grows _ q 4 _)
      have hfin := HD.out.empty (r1 := r.crash ks) (by rw [hrow]; unfold Rv.crash; rw [← HNL.out]; rfl) hg (by unfold Rv.crash; rw [← HNL.out]) rfl ⟨HD.out.ok.n |> fun h => by unfold Rv.crash; rw [← HNL.out]; exact h, by unfold Rv.crash; rw [← HNL.out]; exact HD.out.ok.safe, (fun p hp => by cases hp), by show (-1 : Int) ≤ -1 ∧ (-1 : Int) ≤ _; omega⟩
      go_returns
      refine ⟨rfl, vs', .slice none 0 0, hfin, (HK.out.grown hg (fun k e => .inl (Option.some.inj e).symm)).wide (fun i hi => .inl hi), fun i hi => ?_⟩
      rcases hi with hi | hi | hi
      · exact .inl (.inl hi)
      · rcases HV.out i hi with h1 | h1
        · exact .inl (.inr (.inl h1))
        · exact .inr h1
      · cases hi

end Go.Proofs.Ytddnjlnhnnpgiaa

namespace Go.Proofs.Ytddnjlnhnnpgiaa
set_option maxRecDepth 20000
open Go.RowKit

theorem byteCells_strr (l : List UInt8) : byteCells (str l) = u8s l := rfl
def Rv.bytes (r : Rv) (x : Int) : Nat → List UInt8
  | 0 => []
  | m + 1 => r.bytes x m ++ r.sector (x + m)
theorem rread_down {w : World} {q : Nat} (x m : Int) (c3 : w.cell? ⟨q, 3, none⟩ = some (.bool true)) :
    Calls Try.prog 28 #[.pointer (some ⟨q, 0, none⟩), .int .i64 x, .int .i64 m] w fun e w' => e = .returned (.tuple #[.slice none 0 0, .int .i64 50]) ∧ w = w' := by
  go_enter Try.func28, Try.ntmps28
  go_wp2
  go_ret2
  exact ⟨rfl, rfl⟩
theorem rread_out {w : World} {q N : Nat} (x m : Int) (c0 : w.cell? ⟨q, 0, none⟩ = some (.int .i64 (N : Int))) (c3 : w.cell? ⟨q, 3, none⟩ = some (.bool false)) (hN : N ≤ 65536) (hout : withinB N x m = false) :
    Calls Try.prog 28 #[.pointer (some ⟨q, 0, none⟩), .int .i64 x, .int .i64 m] w fun e w' => e = .returned (.tuple #[.slice none 0 0, .int .i64 30]) ∧ w = w' := by
  have hni : (N : Int) ≤ 65536 := by omega
  have hn0 : (0 : Int) ≤ (N : Int) := by omega
  unfold withinB at hout
  by_cases h0 : x < 0
  · have d0 : decide (x < 0) = true := by simpa using h0
    clear hout
    go_enter Try.func28, Try.ntmps28
    go_wp2
    go_ret2
    exact ⟨rfl, rfl⟩
  · have d0 : decide (x < 0) = false := by simpa using h0
    by_cases h1 : m < 0
    · have d1 : decide (m < 0) = true := by simpa using h1
      clear hout h0
      go_enter Try.func28, Try.ntmps28
      go_wp2
      go_ret2
      exact ⟨rfl, rfl⟩
    · have d1 : decide (m < 0) = false := by simpa using h1
      by_cases h2 : (N : Int) < m
      · have d2 : decide ((N : Int) < m) = true := by simpa using h2
        clear hout h0 h1
        go_enter Try.func28, Try.ntmps28
        go_wp2
        go_ret2
        exact ⟨rfl, rfl⟩
      · have d2 : decide ((N : Int) < m) = false := by simpa using h2
        have h3 : (N : Int) - m < x := by
          simp at hout
          omega
        have d3 : decide ((N : Int) - m < x) = true := by simpa using h3
        have h4 : 0 ≤ m := by omega
        have h5 : m ≤ (N : Int) := by omega
        clear hout h0 h1 h2
        go_enter Try.func28, Try.ntmps28
        go_wp2
        go_ret2
        exact ⟨rfl, rfl⟩

set_option maxHeartbeats 4000000 in
set_option maxRecDepth 8000 in
theorem rread_good {w : World} {B q : Nat} {vs vl : Value} {r : Rv} (h : Rdev w B q vs vl r) (hd : r.down = false) (hn : r.safe.length ≤ 1000000000) (hl : r.loose.length ≤ 1000000000) (x : Int) (m : Nat) (hx : 0 ≤ x) (hm : x + m ≤ r.n) :
    Calls Try.prog 28 #[.pointer (some ⟨q, 0, none⟩), .int .i64 x, .int .i64 (m : Int)] w fun e w' => ∃ v, e = .returned (.tuple #[v, .int .i64 0]) ∧ w'.ownsRow w.heap.size 5 1 v (64 * m) (u8s (r.bytes x m)) ∧ Below w.heap.size w w' := by
  have c0 := h.c0
  have c3 := h.c3
  rw [hd] at c3
  have hN := h.ok.n
  have hni : (r.n : Int) ≤ 65536 := by omega
  have hmi : (m : Int) ≤ 65536 := by omega
  have hxi : x ≤ 65536 := by omega
  have d0 : decide (x < 0) = false := by simpa using hx
  have d1 : decide ((m : Int) < 0) = false := by simp
  have hmn : m ≤ r.n := by omega
  have d4 : decide (r.n < m) = false := by simpa using hmn
  have d5 : ¬ r.n < m := by omega
  have d2 : decide ((r.n : Int) < (m : Int)) = false := by simp; omega
  have d3 : decide ((r.n : Int) - (m : Int) < x) = false := by simp; omega
  have HS := Lib.hid (fun (W : World) (hb : Below w.heap.size w W) (y : Int) => rsector_any (h.below hb) hn hl y)
  have HSL := Lib.hid (fun y => Rv.sector_len h.ok y)
  have HM := Lib.hid hm
  have HMN := Lib.hid hN
  clear h hn hl hm hN
  go_enter Try.func28, Try.ntmps28
  go_wp2
  go_loopw [8, 9] (fun vr ir wr => ∃ i : Nat, i ≤ m ∧ ir = .int .i64 (i : Int) ∧ wr.ownsRow w.heap.size 5 1 vr (64 * i) (u8s (r.bytes x i)) ∧ Below w.heap.size w wr) (fun _ ir _ => m - (intOf ir).toNat)
  case atStart => exact ⟨0, Nat.zero_le _, rfl, World.ownsRow_nil _ _ _ _, Below.refl _ _⟩
  case round =>
    obtain ⟨i, hi, rfl, hown, hb⟩ := hrel
    by_cases hlt : i < m
    · have hse := HS.out wr hb (x + i)
      have hsl := HSL.out (x + i)
      have hby : r.bytes x (i + 1) = r.bytes x i ++ r.sector (x + i) := rfl
      generalize r.sector (x + i) = s at *
      have HSE := Lib.hid hse
      have HL := Lib.hid hsl
      have HBY := Lib.hid hby
      have hii : (i : Int) ≤ 65536 := by omega
      have hlti : (i : Int) < (m : Int) := by omega
      clear hsl hse hby
      go_wp2_with (first
        | (go_at_call 51; refine HSE.out.mono ?_; rintro e w4 ⟨rfl, hb4⟩
           have hown4 := ownsRow_bel hown hb4
           have hb04 := hb.trans (hb4.mono hb.size))
        | (at_builtin; refine wpL_app (m := (str s).size) (y := .string (str s)) rfl (.tmp 43) (.tmp 48) _ _ rfl E_by rfl rfl hown4 (Src.ofString _ Try.underlying9 (str s)) (by have := HL.out; rw [str_size]; unfold maxLen; omega) (by have := HL.out; rw [str_size]; omega) hb04.size ?_; intro v7 w7 hown7 hg7 hat7)
        | fail)
      have hown8 : w7.ownsRow w.heap.size 5 1 v7 (64 * (i + 1)) (u8s (r.bytes x (i + 1))) := by
        rw [HBY.out, u8s_app, show 64 * (i + 1) = 64 * i + (str s).size from by rw [str_size, HL.out]; omega]
        rw [byteCells_strr] at hown7
        exact hown7
      go_roundw
      case rel => exact ⟨i + 1, by omega, by go_num, hown8, hb04.grown hg7 hb04.size (fun q e => (hown4.lt q e).1)⟩
      case measure => simp [intOf]; omega
    · obtain rfl : i = m := by omega
      go_wp2
      go_ret2
      exact ⟨u8, rfl, hown, hb⟩

end Go.Proofs.Ytddnjlnhnnpgiaa
