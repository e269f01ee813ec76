/- The reference device: what is written. -/
import Derived.Test.YtddnjlnhnnpgiaaRreadZ
namespace Go.Proofs.Ytddnjlnhnnpgiaa
set_option maxRecDepth 20000
open Go.RowKit

/-- Bytes of a string in memory of their own. -/
theorem wpL_bytes {P : Program} {w : World} {ops : Array Oper} {rest : List Oper} {o : Oper} {a : Act} {Q : Exit → Act → World → Prop} (hgd : o.guard = none) (x : Operand) (tx t : TypeId) (ho : o.op = .convert tx t x)
    {e : TypeId} (hs : P.underlying tx = some .string) (ht : P.underlying t = some (.slice e)) (he : P.underlying e = some (.int .u8)) {l : List UInt8} (hx : a.eval x = .string (str l)) (hlm : l.length ≤ maxLen)
    (h : ∀ (W : World) (b cap S : Nat) (R : List Value), Hid (b = w.heap.size) → W.heap[b]? = some (.cells (u8s l ++ R).toArray e (S, S + 1)) → Hid (l.length ≤ S) → Hid (l.length ≤ cap ∧ cap ≤ maxLen) → Below w.heap.size w W → Hid (W.heap.size = b + 1) → wpList P ops Q rest (a.put o.dst (.slice (some ⟨b, 0, none⟩) l.length cap)) W) : wpList P ops Q (o :: rest) a w := by
  have hrun := run_bytes_of_string w tx t e (str l) hs ht he
  have hge := grownCap_ge w (str l).size 0 e
  have hle := grownCap_le_maxLen w (str l).size 0 e hlm
  have hrow : bytesRow (str l) (grownCap w (str l).size 0 e) = (u8s l ++ List.replicate (grownCap w (str l).size 0 e - (str l).size) (Value.int .u8 0)).toArray := by
    unfold bytesRow
    apply Array.ext'
    simp only [str, u8s, Array.toList_append, Array.toList_map, Array.toList_replicate]
    rfl
  have hge2 : l.length ≤ grownCap w (str l).size 0 e := hge
  have hsz : l.length ≤ (bytesRow (str l) (grownCap w (str l).size 0 e)).size := by rw [hrow]; simp [u8s_len]
  refine wpList_plain hgd fun K hK => ?_
  unfold Oper.wp
  simp only [execOp, ho, hx, Sem.run_bind, hrun, Result.andThen_ok, Sem.run_pure]
  refine hK _ _ (h _ w.heap.size (grownCap w (str l).size 0 e) (bytesRow (str l) (grownCap w (str l).size 0 e)).size (List.replicate (grownCap w (str l).size 0 e - (str l).size) (Value.int .u8 0)) (Lib.hid rfl) ?_ (Lib.hid hsz) (Lib.hid ⟨hge, hle⟩) ?_ (Lib.hid (by simp)))
  · exact (heap_alloc_new w.drew _).trans (congrArg (fun z => some (Obj.cells z e ((bytesRow (str l) (grownCap w (str l).size 0 e)).size, (bytesRow (str l) (grownCap w (str l).size 0 e)).size + 1))) hrow)
  · exact undrew ((Below.refl w.drew.heap.size w.drew).alloc (Nat.le_refl _) _)
theorem frozen_row {w : World} {g j S : Nat} {cs : Array Value} {t : TypeId} (hg : w.heap[g]? = some (.cells cs t (S, S + 1))) (hj : j < S) : w.frozen? ⟨g, j, none⟩ = false := by
  simp [World.frozen?, hg]
  omega
theorem setCell_row {w : World} {g i : Nat} {cs : Array Value} {t : TypeId} {fr : Nat × Nat} {v : Value} (hg : w.heap[g]? = some (.cells cs t fr)) : (w.setCell ⟨g, i, none⟩ v).heap[g]? = some (.cells (cs.setIfInBounds i v) t fr) := by
  rw [setCell_eq_setRow w g i cs t fr v hg]
  exact setRow_heap w g cs _ t _ hg

/-- So many bytes of a part stand in a row of noughts. -/
def part (s : List UInt8) (k : Nat) : List UInt8 := s.take k ++ Z.drop k
theorem part_len (s : List UInt8) (k : Nat) (hk : k ≤ s.length) (h : s.length ≤ 64) : (part s k).length = 64 := by unfold part; rw [List.length_append, List.length_take, List.length_drop, Z_len]; omega
theorem part_zero (s : List UInt8) : part s 0 = Z := by unfold part; simp
theorem part_end (s : List UInt8) : part s s.length = pad s := by unfold part pad; rw [List.take_of_length_le (Nat.le_refl _)]
theorem part_step (s : List UInt8) (k : Nat) (u : UInt8) (hu : s[k]? = some u) (h : s.length ≤ 64) : (u8s (part s k)).set k (u8 u) = u8s (part s (k + 1)) := by
  obtain ⟨hk, rfl⟩ := List.getElem?_eq_some_iff.1 hu
  have e : part s k = s.take k ++ Z[k]'(by rw [Z_len]; omega) :: Z.drop (k + 1) := by
    unfold part
    rw [← List.drop_eq_getElem_cons]
  have e2 : part s (k + 1) = s.take k ++ s[k] :: Z.drop (k + 1) := by
    unfold part
    rw [List.take_succ_eq_append_getElem hk, List.append_assoc]
    rfl
  have hl : (u8s (s.take k)).length = k := by rw [u8s_len, List.length_take]; omega
  rw [e, e2, u8s_app, u8s_app]
  show (u8s (s.take k) ++ u8 _ :: u8s (Z.drop (k + 1))).set k (u8 s[k]) = u8s (s.take k) ++ u8 s[k] :: u8s (Z.drop (k + 1))
  rw [List.set_append_right _ _ (by omega), hl, Nat.sub_self]
  rfl

def Rv.chg (r : Rv) (p : Int × List UInt8) : Rv := { r with loose := r.loose ++ [p] }
theorem Rv.Ok.chg {r : Rv} (h : r.Ok) (p : Int × List UInt8) (hp : p.2.length = 64) : (r.chg p).Ok := ⟨h.n, h.safe, (fun q hq => by
  rcases List.mem_append.1 hq with hq | hq
  · exact h.loose q hq
  · obtain rfl := List.mem_singleton.1 hq; exact hp), h.fuse⟩
theorem Rdev.app {W3 W4 : World} {B q : Nat} {vs vl v4 : Value} {r : Rv} (h : Rdev W3 B q vs vl r) (p : Int × List UInt8) (hp : p.2.length = 64) (hown : W4.ownsRow B 99 2 v4 (r.loose.length + 1) (rchs r.loose ++ rch p)) (hg : W3.grownBy W4 vl.ownBlock) (hat : v4.ownBlock = vl.ownBlock ∨ v4.ownBlock = some W3.heap.size) : Rdev (W4.setCell ⟨q, 2, none⟩ v4) B q vs v4 (r.chg p) := by
  have hrow4 := row_far h.row hg (fun e => h.ql q e.symm rfl)
  have hrow5 := set_row hrow4 2 v4
  have hg5 := setCell_grows W4 q 2 v4
  have hkp : Keeps (fun i => i = q ∨ vl.ownBlock = some i) W3 (W4.setCell ⟨q, 2, none⟩ v4) := ((Keeps.refl _ _).grown hg (fun k e => .inl (.inr e))).grown hg5 (fun k e => .inl (.inl (Option.some.inj e).symm))
  have hq4 : ∀ k, v4.ownBlock = some k → k ≠ q := fun k hk e => by
    rcases hat with h1 | h1
    · exact h.ql k (h1 ▸ hk) e
    · rw [h1] at hk
      have := Option.some.inj hk
      have := h.lt
      omega
  refine ⟨hrow5, ?_, ?_, h.qs, hq4, ?_, h.hq, h.ok.chg p hp⟩
  · refine ownsRow_kp h.safe hkp (fun i hi hf => ?_)
    rcases hf with hf | hf
    · exact h.qs i hi hf
    · exact h.sl i hi hf
  · have e : (r.chg p).loose.length = r.loose.length + 1 := by unfold Rv.chg; simp
    have e2 : rchs (r.chg p).loose = rchs r.loose ++ rch p := rchs_snoc _ _
    rw [e, e2]
    refine hown.kept hg5 ?_
    cases hk : v4.ownBlock with
    | none => exact .inl rfl
    | some k => exact .inr (fun e => hq4 k hk (Option.some.inj e))
  · intro k hk e
    rcases hat with h1 | h1
    · exact h.sl k hk (h1 ▸ e)
    · rw [h1] at e
      have e1 := Option.some.inj e
      have := (h.safe.lt k hk).2
      omega
theorem load_loose {w : World} {g : Nat} {v : Value} (h : w.cell? ⟨g, 2, none⟩ = some v) : (Instr.loadAt 75 (.pointer (some ⟨g, 2, none⟩))).run Try.prog w = .ok v w := by
  have hl : (loadVar 75 ⟨g, 2, none⟩).run Try.prog w = .ok v w := by go_simp
  simp only [Instr.loadAt, Instr.sureAddr, Sem.run_bind, Sem.run_pure, Result.andThen_ok, hl]
theorem store_loose {w : World} {g : Nat} {cs : Array Value} {e : TypeId} (h : w.heap[g]? = some (.cells cs e (0, 0))) (hc : cs.size = 6) (A : Option Addr) (n c : Nat) : (Instr.storeAt 75 (.pointer (some ⟨g, 2, none⟩)) (.slice A n c)).run Try.prog w = .ok () (w.setCell ⟨g, 2, none⟩ (.slice A n c)) := by
  have c2 : w.cell? ⟨g, 2, none⟩ = some cs[2] := by rw [cell_of_row w g 2 cs e (0, 0) h]; exact Array.getElem?_eq_getElem (by omega)
  have f2 := frozen_of_row w g 2 cs e h
  go_simp
theorem bslice_rch (y : Int) (s : ByteArray) (W : World) : (Instr.buildSlice 75 1 #[(0, .agg #[.int .i64 y, .string s])]).run Try.prog W = .ok (.slice (some ⟨W.heap.size, 0, none⟩) 1 1) (W.alloc (.cells #[.int .i64 y, .string s] 99)) := by
  first | kernel_rfl | go_simp
section
variable {P : Program} {ops : Array Oper} {C : World → Prop} {K : Act → Prop} {o : Oper} {rest : List Oper} {a : Act}
theorem wpQ_conv (hgd : o.guard = none) (t tx : TypeId) (x : Operand) (ho : o.op = .convert t tx x) {p v : Value} (hx : a.eval x = p) (hrun : ∀ w, C w → (convert t tx p).run P w = .ok v w) (h : wpQuiet P ops C K rest (a.put o.dst v)) : wpQuiet P ops C K (o :: rest) a :=
  wpQ_val hgd v (fun w hw => by simp [execOp, ho, hx, hrun w hw, Result.andThen]) h
end
def Rv.write (r : Rv) (x : Int) (l : List UInt8) : Nat → Rv × Int
  | 0 => (r, 0)
  | k + 1 => if (r.write x l k).2 ≠ 0 then r.write x l k else (((r.write x l k).1.chg (x + k, pad (sct l k))).blow, pw ((r.write x l k).1.chg (x + k, pad (sct l k))).blow.down)
theorem Rv.write_stays (d : Rv) (x : Int) (l : List UInt8) (j k : Nat) (h : j ≤ k) (he : (d.write x l j).2 ≠ 0) : d.write x l k = d.write x l j := by
  induction k with
  | zero => obtain rfl : j = 0 := by omega
            rfl
  | succ k ih =>
    rcases Nat.lt_or_ge j (k + 1) with h1 | h1
    · have := ih (by omega)
      rw [Rv.write, if_pos (by rw [this]; exact he), this]
    · obtain rfl : j = k + 1 := by omega
      rfl
theorem Rv.write_rest (r : Rv) (x : Int) (l : List UInt8) (j : Nat) : (r.write x l j).1.done ≤ r.done + j ∧ (r.write x l j).1.loose.length ≤ r.loose.length + j ∧ (r.write x l j).1.n = r.n ∧ (r.write x l j).1.safe = r.safe := by
  induction j with
  | zero => exact ⟨Nat.le_refl _, Nat.le_refl _, rfl, rfl⟩
  | succ j ih =>
    obtain ⟨h1, h2, h3, h4⟩ := ih
    rw [Rv.write]
    split
    · exact ⟨by omega, by omega, h3, h4⟩
    · refine ⟨?_, ?_, h3, h4⟩
      · show (r.write x l j).1.done + 1 ≤ _
        omega
      · show ((r.write x l j).1.loose ++ [_]).length ≤ _
        rw [List.length_append, List.length_singleton]
        omega

theorem rwrite_down {w : World} {q : Nat} (x : Int) (A : Option Addr) (n c : Nat) (c3 : w.cell? ⟨q, 3, none⟩ = some (.bool true)) :
    Calls Try.prog 36 #[.pointer (some ⟨q, 0, none⟩), .int .i64 x, .slice A n c] w fun e w' => e = .returned (.int .i64 50) ∧ w = w' := by
  go_enter Try.func36, Try.ntmps36
  go_wp2
  go_ret
  exact ⟨rfl, rfl⟩
theorem rwrite_out {w : World} {q N : Nat} (x : Int) (A : Option Addr) (n c : Nat) (c0 : w.cell? ⟨q, 0, none⟩ = some (.int .i64 (N : Int))) (c3 : w.cell? ⟨q, 3, none⟩ = some (.bool false)) (hN : N ≤ 65536) (hn : n ≤ 1000000) (hout : withinB N x (((n : Int) + 63) / 64) = false) :
    Calls Try.prog 36 #[.pointer (some ⟨q, 0, none⟩), .int .i64 x, .slice A n c] w fun e w' => e = .returned (.int .i64 30) ∧ w = w' := by
  have hni : (N : Int) ≤ 65536 := by omega
  have hn0 : (0 : Int) ≤ (N : Int) := by omega
  have hnd := rneed_any (n : Int) w (by omega) (by omega)
  obtain ⟨m, hm⟩ : ∃ m, m = ((n : Int) + 63) / 64 := ⟨_, rfl⟩
  have hm0 : 0 ≤ m := by omega
  have hm1 : m ≤ 20000 := by omega
  rw [← hm] at hnd hout
  have HN := Lib.hid hnd
  unfold withinB at hout
  clear hnd hm
  by_cases h0 : x < 0
  · have d0 : decide (x < 0) = true := by simpa using h0
    clear hout
    go_enter Try.func36, Try.ntmps36
    go_wp2_with (go_at_call 60; refine HN.out.mono ?_; rintro e w1 ⟨rfl, rfl⟩)
    go_ret
    exact ⟨rfl, rfl⟩
  · have d0 : decide (x < 0) = false := by simpa using h0
    by_cases h2 : (N : Int) < m
    · have d2 : decide ((N : Int) < m) = true := by simpa using h2
      clear hout h0
      go_enter Try.func36, Try.ntmps36
      go_wp2_with (go_at_call 60; refine HN.out.mono ?_; rintro e w1 ⟨rfl, rfl⟩)
      go_ret
      exact ⟨rfl, rfl⟩
    · have d2 : decide ((N : Int) < m) = false := by simpa using h2
      have h3 : (N : Int) - m < x := by
        simp at hout
        omega
      have d3 : decide ((N : Int) - m < x) = true := by simpa using h3
      have h5 : m ≤ (N : Int) := by omega
      clear hout h0 h2
      go_enter Try.func36, Try.ntmps36
      go_wp2_with (go_at_call 60; refine HN.out.mono ?_; rintro e w1 ⟨rfl, rfl⟩)
      go_ret
      exact ⟨rfl, rfl⟩


set_option maxHeartbeats 8000000 in
set_option maxRecDepth 8000 in
theorem rwrite_good {w : World} {B q : Nat} {vs vl : Value} {r : Rv} (h : Rdev w B q vs vl r) (hd : r.down = false) (x : Int) (A : Option Addr) (n c N : Nat) (l : List UInt8) (hN : N = (n + 63) / 64) (hl : Rd w w.heap.size 1 A n c (u8s l)) (hsep : 0 < n → ∀ b o, A = some ⟨b, o, none⟩ → ¬ Rfoot q vs vl b) (hdone : r.done ≤ 800000000) (hlo : r.loose.length ≤ 900000) (hx : 0 ≤ x) (hm : x + N ≤ r.n) (hn6 : n ≤ 1000000) :
    Calls Try.prog 36 #[.pointer (some ⟨q, 0, none⟩), .int .i64 x, .slice A n c] w fun e w' => e = .returned (.int .i64 (r.write x l N).2) ∧ Rleft w B q vs vl (r.write x l N).1 w' := by
  have c0 := h.c0
  have c3 := h.c3
  rw [hd] at c3
  have hrn := h.ok.n
  have hni : (r.n : Int) ≤ 65536 := by omega
  have hNi : (N : Int) ≤ 65536 := by omega
  have hxi : x ≤ 65536 := by omega
  have hnI : (n : Int) ≤ 1000000 := by omega
  have d0 : decide (x < 0) = false := by simpa using hx
  have hmn : N ≤ r.n := by omega
  have d4 : decide (r.n < N) = false := by simpa using hmn
  have d5 : ¬ r.n < N := by omega
  have d2 : decide ((r.n : Int) < (N : Int)) = false := by simp; omega
  have d3 : decide ((r.n : Int) - (N : Int) < x) = false := by simp; omega
  have hnd := rneed_any (n : Int) w (by omega) (by omega)
  rw [show ((n : Int) + 63) / 64 = (N : Int) from by omega] at hnd
  have hln : l.length = n := by have := hl.len; rwa [u8s_len] at this
  have hft := fun i (hi : Rfoot q vs vl i) => (h.foot_lt hi).2
  have HND := Lib.hid hnd
  have HH := Lib.hid h
  have HL := Lib.hid hl
  have HSEP := Lib.hid hsep
  have HFT := Lib.hid hft
  have HN := Lib.hid hN
  have HM := Lib.hid hm
  have HDO := Lib.hid hdone
  have HLO := Lib.hid hlo
  have HLN := Lib.hid hln
  clear h hrn hmn hnd hln hft hl hsep hN hm hdone hlo hd hn6
  go_enter Try.func36, Try.ntmps36
  go_wp2_with (first
    | (go_at_call 60; refine HND.out.mono ?_; rintro e w1 ⟨rfl, rfl⟩)
    | fail)
  go_loopw [8] (fun ir wr => ∃ (i : Nat) (vl' : Value), i ≤ N ∧ ir = .int .i64 (i : Int) ∧ Rdev wr B q vs vl' (r.write x l i).1 ∧ (r.write x l i).2 = 0 ∧ Keeps (Rfoot q vs vl) w wr ∧ ∀ k, vl'.ownBlock = some k → vl.ownBlock = some k ∨ w.heap.size ≤ k) (fun ir _ => N - (intOf ir).toNat)
  case atStart => exact ⟨0, vl, Nat.zero_le _, rfl, HH.out, rfl, Keeps.refl _ _, fun k hk => .inl hk⟩
  case round =>
    obtain ⟨i, vl', hi, rfl, hDr, h0, hKr, hvl⟩ := hrel
    have HD := Lib.hid hDr
    have H0 := Lib.hid h0
    have HK := Lib.hid hKr
    have HV := Lib.hid hvl
    clear hDr h0 hKr hvl
    by_cases hlt : i < N
    · have hlti : (i : Int) < (N : Int) := by omega
      have hii : (i : Int) ≤ 65536 := by omega
      go_wp2_with (first
        | (go_at_call 61; refine (rnoughts_any _).mono ?_; rintro e w2 ⟨rfl, hb2⟩)
        | (refine wpL_bytes rfl (.tmp 43) _ _ rfl Try.underlying9 Try.underlying38 Try.underlying5 (l := Z) rfl (by unfold maxLen; rw [Z_len]; omega) ?_; intro w3 b9 cap S R hb9 hr9 hS hcap hb3 hz3)
        | fail)
      rw [Z_len]
      have hb13 : Below wr.heap.size wr w3 := hb2.trans (hb3.mono hb2.size)
      have hs64 : (sct l i).length = min 64 (n - 64 * i) := by unfold sct; rw [List.length_take, List.length_drop, HLN.out]
      obtain ⟨m, hmd⟩ : ∃ m, m = min 64 (n - 64 * i) := ⟨_, rfl⟩
      rw [← hmd] at hs64
      have HB13 := Lib.hid hb13
      have HS64 := Lib.hid hs64
      have HMD := Lib.hid hmd
      have hr9' : w3.heap[b9]? = some (.cells (u8s (part (sct l i) 0) ++ R).toArray 5 (S, S + 1)) := by rw [part_zero]; exact hr9
      have HR9 := Lib.hid hr9'
      have hb9v := hb9.out
      have hS1 := hS.out
      rw [Z_len] at hS1
      have HSV := Lib.hid hS1
      have HBV := Lib.hid (Nat.le_trans hb2.size (Nat.le_of_eq hb9v.symm))
      clear hb2 hb3 hb13 hs64 hmd hr9' hr9 hb9v hS1
      obtain ⟨wo, rfl⟩ : ∃ wo : World, wo = wr := ⟨_, rfl⟩
      go_loopw [10] (fun kr wk => ∃ k : Nat, k ≤ m ∧ kr = .int .i64 (k : Int) ∧ wk.heap[b9]? = some (.cells (u8s (part (sct l i) k) ++ R).toArray 5 (S, S + 1)) ∧ Keeps (fun j => j = b9) w3 wk) (fun kr _ => 64 - (intOf kr).toNat)
      case atStart => exact ⟨0, Nat.zero_le _, rfl, HR9.out, Keeps.refl _ _⟩
      case round =>
        obtain ⟨k, hk, rfl, hrk, hKk⟩ := hrel
        have hki : (k : Int) ≤ 64 := by have := HMD.out; omega
        by_cases hkm : k < m
        · have h64 : k < 64 := by have := HMD.out; omega
          have hin : i * 64 + k < n := by have := HMD.out; omega
          have h64i : (k : Int) < 64 := by omega
          have hini : (i : Int) * 64 + (k : Int) < (n : Int) := by omega
          have hlr : Rd wr w.heap.size 1 A n c (u8s l) := HL.out.stayn (fun hpos b o e hb => by
            have h1 := HSEP.out hpos b o e
            have h2 := HK.out.size
            have h3 := HB13.out.size
            have h4 := HBV.out
            rw [hKk.block b (by omega) (by intro e; have e' : b = b9 := e; omega), HB13.out.block b (by omega), HK.out.block b hb h1])
          obtain ⟨b, o, u, rfl, hbl, hu, hc⟩ := hlr.at_ hin
          simp only [u8s, List.getElem?_map, Option.map_eq_some_iff] at hu
          obtain ⟨v, hv, rfl⟩ := hu
          have hsv : (sct l i)[k]? = some v := by
            unfold sct
            rw [List.getElem?_take, if_pos h64, List.getElem?_drop, show 64 * i + k = i * 64 + k from by omega]
            exact hv
          have hst := part_step (sct l i) k v hsv (by rw [HS64.out]; have := HMD.out; omega)
          have f9 := frozen_row hrk (j := k) (by have := HSV.out; omega)
          have hpl := part_len (sct l i) k (by rw [HS64.out]; exact hk) (by rw [HS64.out]; have := HMD.out; omega)
          have c9 : ∃ z, wr.cell? ⟨b9, k, none⟩ = some z := by
            rw [cell_of_row wr b9 k _ _ _ hrk]
            exact ⟨_, Array.getElem?_eq_getElem (by simp [u8s_len, hpl]; omega)⟩
          obtain ⟨z, c9⟩ := c9
          have hr2 := setCell_row (i := k) (v := u8 v) hrk
          have hrw : (u8s (part (sct l i) k) ++ R).toArray.setIfInBounds k (u8 v) = (u8s (part (sct l i) (k + 1)) ++ R).toArray := by
            rw [← hst]
            apply Array.ext'
            simp only [Array.toList_setIfInBounds]
            rw [List.set_append_left _ _ (by rw [u8s_len, hpl]; exact h64)]
          rw [hrw] at hr2
          have HR2 := Lib.hid hr2
          have HKk := Lib.hid hKk
          have hc' : wr.cell? ⟨b, o + (i * 64 + k), none⟩ = some (.int .u8 (v.toNat : Int)) := hc
          clear hrw hr2 hrk hst hsv hv hlr hc hKk hpl
          go_wp2
          exact ⟨⟨k + 1, by omega, by go_num, HR2.out, HKk.out.grown (setCell_grows wr b9 k _) (fun q e => .inl (Option.some.inj e).symm)⟩, by simp [intOf]; omega⟩
        · obtain rfl : k = m := by omega
          have hpd : part (sct l i) k = pad (sct l i) := by rw [← part_end, HS64.out]
          rw [hpd] at hrk
          obtain ⟨s, hs⟩ : ∃ s, s = pad (sct l i) := ⟨_, rfl⟩
          rw [← hs] at hrk
          have hs64 : s.length = 64 := by rw [hs]; exact pad_len _ (by rw [HS64.out]; have := HMD.out; omega)
          have hb9q : b9 ≠ q := by have h1 := HBV.out; have h2 := HD.out.lt; omega
          have hb9v : ∀ j, Rfoot q vs vl' j → j ≠ b9 := fun j hj => by have h1 := HBV.out; have h2 := (HD.out.foot_lt hj).2; omega
          have hD4 : Rdev wr B q vs vl' (r.write x l i).1 := (HD.out.below HB13.out).keeps hKk (fun j hj hf => hb9v j hf hj)
          have hK4 : Keeps (Rfoot q vs vl) w wr := (HK.out.trans (Keeps.of_below (F := fun _ => False) HB13.out) (fun i hi => hi.elim)).trans hKk (fun j hj => .inr (by have h1 := HBV.out; have h2 := HK.out.size; have h3 : j = b9 := hj; omega))
          have hcp := hcap.out
          rw [Z_len] at hcp
          have hrd9 : ∀ W, W.heap[b9]? = some (.cells (u8s s ++ R).toArray 5 (S, S + 1)) → (convert 38 9 (.slice (some ⟨b9, 0, none⟩) 64 cap)).run Try.prog W = .ok (.string (str s)) W := fun W hW =>
            run_str Try.underlying38 Try.underlying5 Try.underlying9 (B := b9 + 1) ⟨hcp.1, hcp.2, by rw [u8s_len, hs64], fun _ => ⟨b9, 0, rfl, Nat.lt_succ_self _, fun j u hu => by
              rw [cell_of_row W b9 (0 + j) _ _ _ hW, Nat.zero_add]
              have hj := (List.getElem?_eq_some_iff.1 hu).1
              rw [List.getElem?_toArray, List.getElem?_append_left hj]
              exact hu⟩⟩
          have HRK := Lib.hid hrk
          have HSE := Lib.hid hs
          have HS6 := Lib.hid hs64
          have HD4 := Lib.hid hD4
          have HK4 := Lib.hid hK4
          have HRD9 := Lib.hid hrd9
          have HB9V := Lib.hid hb9v
          clear hpd hrk hs hs64 hD4 hK4 hKk hrd9 hb9v
          by_cases h64 : k < 64
          · have hin : ¬ i * 64 + k < n := by have := HMD.out; omega
            have hini : ¬ (i : Int) * 64 + (k : Int) < (n : Int) := by omega
            have h64i : (k : Int) < 64 := by omega
            go_wp2
            refine wp_treeF (fun i => i = q ∨ vl'.ownBlock = some i) (.two [0, 1, 2, 3, 5, 6, 7, 8, 9, 10] 4 11 (.one [] 11 (.one [] 12 (.one [13, 14] 15 (.fin [])))) (.one [] 4 (.one [] 12 (.one [13, 14] 15 (.fin []))))) (by kernel_rfl) (by kernel_rfl) (fun d _ _ _ _ h => by cases d <;> exact h) fun wd hbd => ?_
            have hFb9 : ¬ (b9 = q ∨ vl'.ownBlock = some b9) := by
              rintro (e | e)
              · exact hb9q e
              · exact HB9V.out b9 (.inr (.inr e)) rfl
            intro f hf
            have HF1 := Lib.hid (show ∀ X, (∃ z, X = f z) → (convert 38 9 (.slice (some ⟨b9, 0, none⟩) 64 cap)).run Try.prog X = .ok (.string (str s)) X from by
              rintro X ⟨z, rfl⟩
              exact HRD9.out _ ((hf z).row HRK.out hFb9))
            simp only [pickI, Option.toList_some, List.cons_append, List.nil_append, List.getElem?_toArray, List.getElem?_cons_succ, List.getElem?_cons_zero]
            iterate 8 go_big_quiet_step (fail)
            refine wpQ_conv rfl _ _ (.tmp 76) rfl rfl HF1.out ?_
            go_frame
            go_big_quiet_step (fail)
            refine wpQuiet_nil ?_
            clear HF1 hf f
            have hDd := HD4.out.below hbd
            have c2d := hDd.c2
            have hKd : Keeps (fun i => i = q ∨ vl'.ownBlock = some i) wr wd := Keeps.of_below hbd
            have hbs := bslice_rch (x + i) (str s) wd
            obtain ⟨W3, hW3⟩ : ∃ W3, W3 = wd.alloc (.cells #[.int .i64 (x + i), .string (str s)] 99) := ⟨_, rfl⟩
            have hsrc := rch_src wd 99 (x + i, s)
            obtain ⟨b3, hb3⟩ : ∃ b3, b3 = wd.heap.size := ⟨_, rfl⟩
            rw [← hW3, ← hb3] at hbs
            have hsrc3 : Src Try.prog 2 75 (.slice (some ⟨b3, 0, none⟩) 1 1) 1 (rch (x + i, s)) W3 := by rw [hW3, hb3]; exact hsrc
            have hg3 : wd.grownBy W3 none := by rw [hW3]; exact World.grownBy_alloc _ _ _
            have hK3 : Keeps (fun i => i = q ∨ vl'.ownBlock = some i) wr W3 := hKd.grown hg3 (fun k e => by cases e)
            have hD3 := hDd.new hg3
            have hrest := Rv.write_rest r x l i
            have hBW3 : B ≤ W3.heap.size := Nat.le_trans hD3.hq (Nat.le_of_lt hD3.lt)
            have hll : (r.write x l i).1.loose.length + 1 ≤ 1000001 := by have h1 := hrest.2.1; have h2 := HLO.out; omega
            have HLL := Lib.hid hll
            have HDN := Lib.hid hrest.1
            clear hW3 hb3 hsrc hrest hll
            constructor
            · refine seg_op (by simp only [List.getElem?_toArray, List.getElem?_cons_succ, List.getElem?_cons_zero]; rfl) fun K hK => ?_
              refine ite_ok rfl ?_
              refine wp_load1 _ (.tmp 71) rfl rfl (load_loose c2d) ?_
              refine hK.out _ _ ⟨hKd, ?_⟩
              clear hK K
              go_frame
              intro f hf
              refine wpQuiet_nil ?_
              clear hf f
              refine seg_op (by simp only [List.getElem?_toArray, List.getElem?_cons_succ, List.getElem?_cons_zero]; rfl) fun K hK => ?_
              refine ite_ok rfl ?_
              refine wp_bslice _ 1 (.tmp 78) rfl rfl hbs ?_
              refine hK.out _ _ ⟨hK3, ?_⟩
              clear hK K
              go_frame
              intro f hf
              refine wpQuiet_nil ?_
              clear hf f
              refine seg_op (by simp only [List.getElem?_toArray, List.getElem?_cons_succ, List.getElem?_cons_zero]; rfl) fun K hK => ?_
              refine ite_ok rfl ?_
              refine wp_app (.tmp 72) (.tmp 79) _ _ rfl E_rch (m := 1) rfl rfl hD3.loose hsrc3 (by have := HLL.out; unfold maxLen; omega) (by have := HLL.out; omega) hBW3 ?_
              intro v4 W4 hown4 hg4 hat4
              have hK4 : Keeps (fun i => i = q ∨ vl'.ownBlock = some i) wr W4 := hK3.grown hg4 (fun q e => .inl (.inr e))
              refine hK.out _ _ ⟨hK4, ?_⟩
              clear hK K
              go_frame
              intro f hf
              simp only [pickI, Option.toList_some, List.cons_append, List.nil_append, List.getElem?_toArray, List.getElem?_cons_succ, List.getElem?_cons_zero]
              iterate 2 go_big_quiet_step (fail)
              refine wpQuiet_nil ?_
              clear hf f
              have hrow4 := row_far hD3.row hg4 (fun e => hD3.ql q e.symm rfl)
              obtain ⟨A4, c4, rfl⟩ := ownsRow_form hown4
              have hst := store_loose hrow4 rfl A4 ((r.write x l i).1.loose.length + 1) c4
              have hg5 := setCell_grows W4 q 2 (.slice A4 ((r.write x l i).1.loose.length + 1) c4)
              have hD5 := hD3.app (x + i, s) HS6.out hown4 hg4 hat4
              generalize W4.setCell ⟨q, 2, none⟩ (.slice A4 ((r.write x l i).1.loose.length + 1) c4) = W5 at *
              refine seg_op (by simp only [List.getElem?_toArray, List.getElem?_cons_succ, List.getElem?_cons_zero]; rfl) fun K hK => ?_
              refine ite_ok rfl ?_
              refine wp_store1 _ (.tmp 82) (.tmp 80) rfl rfl rfl hst ?_
              have hK5 : Keeps (fun i => i = q ∨ vl'.ownBlock = some i) wr W5 := hK4.grown hg5 (fun q e => .inl (.inl (Option.some.inj e).symm))
              refine hK.out _ _ ⟨hK5, ?_⟩
              clear hK K
              go_frame
              intro f hf
              refine wpQuiet_nil ?_
              clear hf f
              have hv5 : ∀ j, Value.ownBlock (.slice A4 ((r.write x l i).1.loose.length + 1) c4) = some j → vl.ownBlock = some j ∨ w.heap.size ≤ j := fun j hj => by
                rcases hat4 with h1 | h1
                · exact HV.out j (h1 ▸ hj)
                · rw [hj] at h1
                  have h2 := Option.some.inj h1
                  have h3 := HK4.out.size
                  have h4 := hK3.size
                  exact .inr (by omega)
              have hK05 : Keeps (Rfoot q vs vl) w W5 := HK4.out.trans hK5 (fun j hj => by
                rcases hj with hj | hj
                · exact .inl (.inl hj)
                · rcases HV.out j hj with h1 | h1
                  · exact .inl (.inr (.inr h1))
                  · exact .inr h1)
              have hwst : r.write x l (i + 1) = (((r.write x l i).1.chg (x + i, s)).blow, pw ((r.write x l i).1.chg (x + i, s)).blow.down) := by
                rw [Rv.write, if_neg (by rw [H0.out]; simp), HSE.out]
              have hbl := rblown_any hD5 (by have h1 := HDN.out; have h2 := HDO.out; have h3 : ((r.write x l i).1.chg (x + i, s)).done = (r.write x l i).1.done := rfl
                                             rw [h3]; omega)
              obtain ⟨rn, hrn⟩ : ∃ rn, rn = ((r.write x l i).1.chg (x + i, s)).blow := ⟨_, rfl⟩
              rw [← hrn] at hbl hwst
              have HBL := Lib.hid hbl
              have HWST := Lib.hid hwst
              have HV5 := Lib.hid hv5
              have HK05 := Lib.hid hK05
              clear hbl hwst hv5 hK05 hD5 hK5 hst hown4 hg4 hat4 hrow4 hK4 hg5 hrn
              cases hdn : rn.down with
              | true =>
                rw [hdn] at HBL HWST
                go_wp2_with (first
                  | (go_at_call 62; refine HBL.out.mono ?_; rintro e w8 ⟨rfl, hD8, hg8⟩)
                  | fail)
                go_ret
                have hws := Rv.write_stays r x l (i + 1) N (by omega) (by rw [HWST.out]; show pw true ≠ 0; decide)
                rw [hws, HWST.out]
                exact ⟨rfl, vs, _, hD8, HK05.out.grown hg8 (fun k e => .inl (.inl (Option.some.inj e).symm)), fun j hj => by
                  rcases hj with hj | hj | hj
                  · exact .inl (.inl hj)
                  · exact .inl (.inr (.inl hj))
                  · rcases HV5.out j hj with h1 | h1
                    · exact .inl (.inr (.inr h1))
                    · exact .inr h1⟩
              | false =>
                rw [hdn] at HBL HWST
                go_wp2_with (first
                  | (go_at_call 62; refine HBL.out.mono ?_; rintro e w8 ⟨rfl, hD8, hg8⟩)
                  | fail)
                go_roundw
                case rel => exact ⟨i + 1, _, by omega, by go_num, by rw [HWST.out]; exact hD8, by rw [HWST.out]; rfl, HK05.out.grown hg8 (fun k e => .inl (.inl (Option.some.inj e).symm)), HV5.out⟩
                case measure => simp [intOf]; omega
            · refine seg_op (by simp only [List.getElem?_toArray, List.getElem?_cons_succ, List.getElem?_cons_zero]; rfl) fun K hK => ?_
              refine ite_ok rfl ?_
              refine wp_bslice _ 1 (.tmp 78) rfl rfl hbs ?_
              refine hK.out _ _ ⟨hK3, ?_⟩
              clear hK K
              go_frame
              intro f hf
              refine wpQuiet_nil ?_
              clear hf f
              have c2e := hD3.c2
              refine seg_op (by simp only [List.getElem?_toArray, List.getElem?_cons_succ, List.getElem?_cons_zero]; rfl) fun K hK => ?_
              refine ite_ok rfl ?_
              refine wp_load1 _ (.tmp 71) rfl rfl (load_loose c2e) ?_
              refine hK.out _ _ ⟨hK3, ?_⟩
              clear hK K
              go_frame
              intro f hf
              refine wpQuiet_nil ?_
              clear hf f
              refine seg_op (by simp only [List.getElem?_toArray, List.getElem?_cons_succ, List.getElem?_cons_zero]; rfl) fun K hK => ?_
              refine ite_ok rfl ?_
              refine wp_app (.tmp 72) (.tmp 79) _ _ rfl E_rch (m := 1) rfl rfl hD3.loose hsrc3 (by have := HLL.out; unfold maxLen; omega) (by have := HLL.out; omega) hBW3 ?_
              intro v4 W4 hown4 hg4 hat4
              have hK4 : Keeps (fun i => i = q ∨ vl'.ownBlock = some i) wr W4 := hK3.grown hg4 (fun q e => .inl (.inr e))
              refine hK.out _ _ ⟨hK4, ?_⟩
              clear hK K
              go_frame
              intro f hf
              simp only [pickI, Option.toList_some, List.cons_append, List.nil_append, List.getElem?_toArray, List.getElem?_cons_succ, List.getElem?_cons_zero]
              iterate 2 go_big_quiet_step (fail)
              refine wpQuiet_nil ?_
              clear hf f
              have hrow4 := row_far hD3.row hg4 (fun e => hD3.ql q e.symm rfl)
              obtain ⟨A4, c4, rfl⟩ := ownsRow_form hown4
              have hst := store_loose hrow4 rfl A4 ((r.write x l i).1.loose.length + 1) c4
              have hg5 := setCell_grows W4 q 2 (.slice A4 ((r.write x l i).1.loose.length + 1) c4)
              have hD5 := hD3.app (x + i, s) HS6.out hown4 hg4 hat4
              generalize W4.setCell ⟨q, 2, none⟩ (.slice A4 ((r.write x l i).1.loose.length + 1) c4) = W5 at *
              refine seg_op (by simp only [List.getElem?_toArray, List.getElem?_cons_succ, List.getElem?_cons_zero]; rfl) fun K hK => ?_
              refine ite_ok rfl ?_
              refine wp_store1 _ (.tmp 82) (.tmp 80) rfl rfl rfl hst ?_
              have hK5 : Keeps (fun i => i = q ∨ vl'.ownBlock = some i) wr W5 := hK4.grown hg5 (fun q e => .inl (.inl (Option.some.inj e).symm))
              refine hK.out _ _ ⟨hK5, ?_⟩
              clear hK K
              go_frame
              intro f hf
              refine wpQuiet_nil ?_
              clear hf f
              have hv5 : ∀ j, Value.ownBlock (.slice A4 ((r.write x l i).1.loose.length + 1) c4) = some j → vl.ownBlock = some j ∨ w.heap.size ≤ j := fun j hj => by
                rcases hat4 with h1 | h1
                · exact HV.out j (h1 ▸ hj)
                · rw [hj] at h1
                  have h2 := Option.some.inj h1
                  have h3 := HK4.out.size
                  have h4 := hK3.size
                  exact .inr (by omega)
              have hK05 : Keeps (Rfoot q vs vl) w W5 := HK4.out.trans hK5 (fun j hj => by
                rcases hj with hj | hj
                · exact .inl (.inl hj)
                · rcases HV.out j hj with h1 | h1
                  · exact .inl (.inr (.inr h1))
                  · exact .inr h1)
              have hwst : r.write x l (i + 1) = (((r.write x l i).1.chg (x + i, s)).blow, pw ((r.write x l i).1.chg (x + i, s)).blow.down) := by
                rw [Rv.write, if_neg (by rw [H0.out]; simp), HSE.out]
              have hbl := rblown_any hD5 (by have h1 := HDN.out; have h2 := HDO.out; have h3 : ((r.write x l i).1.chg (x + i, s)).done = (r.write x l i).1.done := rfl
                                             rw [h3]; omega)
              obtain ⟨rn, hrn⟩ : ∃ rn, rn = ((r.write x l i).1.chg (x + i, s)).blow := ⟨_, rfl⟩
              rw [← hrn] at hbl hwst
              have HBL := Lib.hid hbl
              have HWST := Lib.hid hwst
              have HV5 := Lib.hid hv5
              have HK05 := Lib.hid hK05
              clear hbl hwst hv5 hK05 hD5 hK5 hst hown4 hg4 hat4 hrow4 hK4 hg5 hrn
              cases hdn : rn.down with
              | true =>
                rw [hdn] at HBL HWST
                go_wp2_with (first
                  | (go_at_call 62; refine HBL.out.mono ?_; rintro e w8 ⟨rfl, hD8, hg8⟩)
                  | fail)
                go_ret
                have hws := Rv.write_stays r x l (i + 1) N (by omega) (by rw [HWST.out]; show pw true ≠ 0; decide)
                rw [hws, HWST.out]
                exact ⟨rfl, vs, _, hD8, HK05.out.grown hg8 (fun k e => .inl (.inl (Option.some.inj e).symm)), fun j hj => by
                  rcases hj with hj | hj | hj
                  · exact .inl (.inl hj)
                  · exact .inl (.inr (.inl hj))
                  · rcases HV5.out j hj with h1 | h1
                    · exact .inl (.inr (.inr h1))
                    · exact .inr h1⟩
              | false =>
                rw [hdn] at HBL HWST
                go_wp2_with (first
                  | (go_at_call 62; refine HBL.out.mono ?_; rintro e w8 ⟨rfl, hD8, hg8⟩)
                  | fail)
                go_roundw
                case rel => exact ⟨i + 1, _, by omega, by go_num, by rw [HWST.out]; exact hD8, by rw [HWST.out]; rfl, HK05.out.grown hg8 (fun k e => .inl (.inl (Option.some.inj e).symm)), HV5.out⟩
                case measure => simp [intOf]; omega
          · have h64i : ¬ (k : Int) < 64 := by omega
            go_wp2
            refine wp_treeF (fun i => i = q ∨ vl'.ownBlock = some i) (.two [0, 1, 2, 3, 5, 6, 7, 8, 9, 10] 4 11 (.one [] 11 (.one [] 12 (.one [13, 14] 15 (.fin [])))) (.one [] 4 (.one [] 12 (.one [13, 14] 15 (.fin []))))) (by kernel_rfl) (by kernel_rfl) (fun d _ _ _ _ h => by cases d <;> exact h) fun wd hbd => ?_
            have hFb9 : ¬ (b9 = q ∨ vl'.ownBlock = some b9) := by
              rintro (e | e)
              · exact hb9q e
              · exact HB9V.out b9 (.inr (.inr e)) rfl
            intro f hf
            have HF1 := Lib.hid (show ∀ X, (∃ z, X = f z) → (convert 38 9 (.slice (some ⟨b9, 0, none⟩) 64 cap)).run Try.prog X = .ok (.string (str s)) X from by
              rintro X ⟨z, rfl⟩
              exact HRD9.out _ ((hf z).row HRK.out hFb9))
            simp only [pickI, Option.toList_some, List.cons_append, List.nil_append, List.getElem?_toArray, List.getElem?_cons_succ, List.getElem?_cons_zero]
            iterate 8 go_big_quiet_step (fail)
            refine wpQ_conv rfl _ _ (.tmp 76) rfl rfl HF1.out ?_
            go_frame
            go_big_quiet_step (fail)
            refine wpQuiet_nil ?_
            clear HF1 hf f
            have hDd := HD4.out.below hbd
            have c2d := hDd.c2
            have hKd : Keeps (fun i => i = q ∨ vl'.ownBlock = some i) wr wd := Keeps.of_below hbd
            have hbs := bslice_rch (x + i) (str s) wd
            obtain ⟨W3, hW3⟩ : ∃ W3, W3 = wd.alloc (.cells #[.int .i64 (x + i), .string (str s)] 99) := ⟨_, rfl⟩
            have hsrc := rch_src wd 99 (x + i, s)
            obtain ⟨b3, hb3⟩ : ∃ b3, b3 = wd.heap.size := ⟨_, rfl⟩
            rw [← hW3, ← hb3] at hbs
            have hsrc3 : Src Try.prog 2 75 (.slice (some ⟨b3, 0, none⟩) 1 1) 1 (rch (x + i, s)) W3 := by rw [hW3, hb3]; exact hsrc
            have hg3 : wd.grownBy W3 none := by rw [hW3]; exact World.grownBy_alloc _ _ _
            have hK3 : Keeps (fun i => i = q ∨ vl'.ownBlock = some i) wr W3 := hKd.grown hg3 (fun k e => by cases e)
            have hD3 := hDd.new hg3
            have hrest := Rv.write_rest r x l i
            have hBW3 : B ≤ W3.heap.size := Nat.le_trans hD3.hq (Nat.le_of_lt hD3.lt)
            have hll : (r.write x l i).1.loose.length + 1 ≤ 1000001 := by have h1 := hrest.2.1; have h2 := HLO.out; omega
            have HLL := Lib.hid hll
            have HDN := Lib.hid hrest.1
            clear hW3 hb3 hsrc hrest hll
            constructor
            · refine seg_op (by simp only [List.getElem?_toArray, List.getElem?_cons_succ, List.getElem?_cons_zero]; rfl) fun K hK => ?_
              refine ite_ok rfl ?_
              refine wp_load1 _ (.tmp 71) rfl rfl (load_loose c2d) ?_
              refine hK.out _ _ ⟨hKd, ?_⟩
              clear hK K
              go_frame
              intro f hf
              refine wpQuiet_nil ?_
              clear hf f
              refine seg_op (by simp only [List.getElem?_toArray, List.getElem?_cons_succ, List.getElem?_cons_zero]; rfl) fun K hK => ?_
              refine ite_ok rfl ?_
              refine wp_bslice _ 1 (.tmp 78) rfl rfl hbs ?_
              refine hK.out _ _ ⟨hK3, ?_⟩
              clear hK K
              go_frame
              intro f hf
              refine wpQuiet_nil ?_
              clear hf f
              refine seg_op (by simp only [List.getElem?_toArray, List.getElem?_cons_succ, List.getElem?_cons_zero]; rfl) fun K hK => ?_
              refine ite_ok rfl ?_
              refine wp_app (.tmp 72) (.tmp 79) _ _ rfl E_rch (m := 1) rfl rfl hD3.loose hsrc3 (by have := HLL.out; unfold maxLen; omega) (by have := HLL.out; omega) hBW3 ?_
              intro v4 W4 hown4 hg4 hat4
              have hK4 : Keeps (fun i => i = q ∨ vl'.ownBlock = some i) wr W4 := hK3.grown hg4 (fun q e => .inl (.inr e))
              refine hK.out _ _ ⟨hK4, ?_⟩
              clear hK K
              go_frame
              intro f hf
              simp only [pickI, Option.toList_some, List.cons_append, List.nil_append, List.getElem?_toArray, List.getElem?_cons_succ, List.getElem?_cons_zero]
              iterate 2 go_big_quiet_step (fail)
              refine wpQuiet_nil ?_
              clear hf f
              have hrow4 := row_far hD3.row hg4 (fun e => hD3.ql q e.symm rfl)
              obtain ⟨A4, c4, rfl⟩ := ownsRow_form hown4
              have hst := store_loose hrow4 rfl A4 ((r.write x l i).1.loose.length + 1) c4
              have hg5 := setCell_grows W4 q 2 (.slice A4 ((r.write x l i).1.loose.length + 1) c4)
              have hD5 := hD3.app (x + i, s) HS6.out hown4 hg4 hat4
              generalize W4.setCell ⟨q, 2, none⟩ (.slice A4 ((r.write x l i).1.loose.length + 1) c4) = W5 at *
              refine seg_op (by simp only [List.getElem?_toArray, List.getElem?_cons_succ, List.getElem?_cons_zero]; rfl) fun K hK => ?_
              refine ite_ok rfl ?_
              refine wp_store1 _ (.tmp 82) (.tmp 80) rfl rfl rfl hst ?_
              have hK5 : Keeps (fun i => i = q ∨ vl'.ownBlock = some i) wr W5 := hK4.grown hg5 (fun q e => .inl (.inl (Option.some.inj e).symm))
              refine hK.out _ _ ⟨hK5, ?_⟩
              clear hK K
              go_frame
              intro f hf
              refine wpQuiet_nil ?_
              clear hf f
              have hv5 : ∀ j, Value.ownBlock (.slice A4 ((r.write x l i).1.loose.length + 1) c4) = some j → vl.ownBlock = some j ∨ w.heap.size ≤ j := fun j hj => by
                rcases hat4 with h1 | h1
                · exact HV.out j (h1 ▸ hj)
                · rw [hj] at h1
                  have h2 := Option.some.inj h1
                  have h3 := HK4.out.size
                  have h4 := hK3.size
                  exact .inr (by omega)
              have hK05 : Keeps (Rfoot q vs vl) w W5 := HK4.out.trans hK5 (fun j hj => by
                rcases hj with hj | hj
                · exact .inl (.inl hj)
                · rcases HV.out j hj with h1 | h1
                  · exact .inl (.inr (.inr h1))
                  · exact .inr h1)
              have hwst : r.write x l (i + 1) = (((r.write x l i).1.chg (x + i, s)).blow, pw ((r.write x l i).1.chg (x + i, s)).blow.down) := by
                rw [Rv.write, if_neg (by rw [H0.out]; simp), HSE.out]
              have hbl := rblown_any hD5 (by have h1 := HDN.out; have h2 := HDO.out; have h3 : ((r.write x l i).1.chg (x + i, s)).done = (r.write x l i).1.done := rfl
                                             rw [h3]; omega)
              obtain ⟨rn, hrn⟩ : ∃ rn, rn = ((r.write x l i).1.chg (x + i, s)).blow := ⟨_, rfl⟩
              rw [← hrn] at hbl hwst
              have HBL := Lib.hid hbl
              have HWST := Lib.hid hwst
              have HV5 := Lib.hid hv5
              have HK05 := Lib.hid hK05
              clear hbl hwst hv5 hK05 hD5 hK5 hst hown4 hg4 hat4 hrow4 hK4 hg5 hrn
              cases hdn : rn.down with
              | true =>
                rw [hdn] at HBL HWST
                go_wp2_with (first
                  | (go_at_call 62; refine HBL.out.mono ?_; rintro e w8 ⟨rfl, hD8, hg8⟩)
                  | fail)
                go_ret
                have hws := Rv.write_stays r x l (i + 1) N (by omega) (by rw [HWST.out]; show pw true ≠ 0; decide)
                rw [hws, HWST.out]
                exact ⟨rfl, vs, _, hD8, HK05.out.grown hg8 (fun k e => .inl (.inl (Option.some.inj e).symm)), fun j hj => by
                  rcases hj with hj | hj | hj
                  · exact .inl (.inl hj)
                  · exact .inl (.inr (.inl hj))
                  · rcases HV5.out j hj with h1 | h1
                    · exact .inl (.inr (.inr h1))
                    · exact .inr h1⟩
              | false =>
                rw [hdn] at HBL HWST
                go_wp2_with (first
                  | (go_at_call 62; refine HBL.out.mono ?_; rintro e w8 ⟨rfl, hD8, hg8⟩)
                  | fail)
                go_roundw
                case rel => exact ⟨i + 1, _, by omega, by go_num, by rw [HWST.out]; exact hD8, by rw [HWST.out]; rfl, HK05.out.grown hg8 (fun k e => .inl (.inl (Option.some.inj e).symm)), HV5.out⟩
                case measure => simp [intOf]; omega
            · refine seg_op (by simp only [List.getElem?_toArray, List.getElem?_cons_succ, List.getElem?_cons_zero]; rfl) fun K hK => ?_
              refine ite_ok rfl ?_
              refine wp_bslice _ 1 (.tmp 78) rfl rfl hbs ?_
              refine hK.out _ _ ⟨hK3, ?_⟩
              clear hK K
              go_frame
              intro f hf
              refine wpQuiet_nil ?_
              clear hf f
              have c2e := hD3.c2
              refine seg_op (by simp only [List.getElem?_toArray, List.getElem?_cons_succ, List.getElem?_cons_zero]; rfl) fun K hK => ?_
              refine ite_ok rfl ?_
              refine wp_load1 _ (.tmp 71) rfl rfl (load_loose c2e) ?_
              refine hK.out _ _ ⟨hK3, ?_⟩
              clear hK K
              go_frame
              intro f hf
              refine wpQuiet_nil ?_
              clear hf f
              refine seg_op (by simp only [List.getElem?_toArray, List.getElem?_cons_succ, List.getElem?_cons_zero]; rfl) fun K hK => ?_
              refine ite_ok rfl ?_
              refine wp_app (.tmp 72) (.tmp 79) _ _ rfl E_rch (m := 1) rfl rfl hD3.loose hsrc3 (by have := HLL.out; unfold maxLen; omega) (by have := HLL.out; omega) hBW3 ?_
              intro v4 W4 hown4 hg4 hat4
              have hK4 : Keeps (fun i => i = q ∨ vl'.ownBlock = some i) wr W4 := hK3.grown hg4 (fun q e => .inl (.inr e))
              refine hK.out _ _ ⟨hK4, ?_⟩
              clear hK K
              go_frame
              intro f hf
              simp only [pickI, Option.toList_some, List.cons_append, List.nil_append, List.getElem?_toArray, List.getElem?_cons_succ, List.getElem?_cons_zero]
              iterate 2 go_big_quiet_step (fail)
              refine wpQuiet_nil ?_
              clear hf f
              have hrow4 := row_far hD3.row hg4 (fun e => hD3.ql q e.symm rfl)
              obtain ⟨A4, c4, rfl⟩ := ownsRow_form hown4
              have hst := store_loose hrow4 rfl A4 ((r.write x l i).1.loose.length + 1) c4
              have hg5 := setCell_grows W4 q 2 (.slice A4 ((r.write x l i).1.loose.length + 1) c4)
              have hD5 := hD3.app (x + i, s) HS6.out hown4 hg4 hat4
              generalize W4.setCell ⟨q, 2, none⟩ (.slice A4 ((r.write x l i).1.loose.length + 1) c4) = W5 at *
              refine seg_op (by simp only [List.getElem?_toArray, List.getElem?_cons_succ, List.getElem?_cons_zero]; rfl) fun K hK => ?_
              refine ite_ok rfl ?_
              refine wp_store1 _ (.tmp 82) (.tmp 80) rfl rfl rfl hst ?_
              have hK5 : Keeps (fun i => i = q ∨ vl'.ownBlock = some i) wr W5 := hK4.grown hg5 (fun q e => .inl (.inl (Option.some.inj e).symm))
              refine hK.out _ _ ⟨hK5, ?_⟩
              clear hK K
              go_frame
              intro f hf
              refine wpQuiet_nil ?_
              clear hf f
              have hv5 : ∀ j, Value.ownBlock (.slice A4 ((r.write x l i).1.loose.length + 1) c4) = some j → vl.ownBlock = some j ∨ w.heap.size ≤ j := fun j hj => by
                rcases hat4 with h1 | h1
                · exact HV.out j (h1 ▸ hj)
                · rw [hj] at h1
                  have h2 := Option.some.inj h1
                  have h3 := HK4.out.size
                  have h4 := hK3.size
                  exact .inr (by omega)
              have hK05 : Keeps (Rfoot q vs vl) w W5 := HK4.out.trans hK5 (fun j hj => by
                rcases hj with hj | hj
                · exact .inl (.inl hj)
                · rcases HV.out j hj with h1 | h1
                  · exact .inl (.inr (.inr h1))
                  · exact .inr h1)
              have hwst : r.write x l (i + 1) = (((r.write x l i).1.chg (x + i, s)).blow, pw ((r.write x l i).1.chg (x + i, s)).blow.down) := by
                rw [Rv.write, if_neg (by rw [H0.out]; simp), HSE.out]
              have hbl := rblown_any hD5 (by have h1 := HDN.out; have h2 := HDO.out; have h3 : ((r.write x l i).1.chg (x + i, s)).done = (r.write x l i).1.done := rfl
                                             rw [h3]; omega)
              obtain ⟨rn, hrn⟩ : ∃ rn, rn = ((r.write x l i).1.chg (x + i, s)).blow := ⟨_, rfl⟩
              rw [← hrn] at hbl hwst
              have HBL := Lib.hid hbl
              have HWST := Lib.hid hwst
              have HV5 := Lib.hid hv5
              have HK05 := Lib.hid hK05
              clear hbl hwst hv5 hK05 hD5 hK5 hst hown4 hg4 hat4 hrow4 hK4 hg5 hrn
              cases hdn : rn.down with
              | true =>
                rw [hdn] at HBL HWST
                go_wp2_with (first
                  | (go_at_call 62; refine HBL.out.mono ?_; rintro e w8 ⟨rfl, hD8, hg8⟩)
                  | fail)
                go_ret
                have hws := Rv.write_stays r x l (i + 1) N (by omega) (by rw [HWST.out]; show pw true ≠ 0; decide)
                rw [hws, HWST.out]
                exact ⟨rfl, vs, _, hD8, HK05.out.grown hg8 (fun k e => .inl (.inl (Option.some.inj e).symm)), fun j hj => by
                  rcases hj with hj | hj | hj
                  · exact .inl (.inl hj)
                  · exact .inl (.inr (.inl hj))
                  · rcases HV5.out j hj with h1 | h1
                    · exact .inl (.inr (.inr h1))
                    · exact .inr h1⟩
              | false =>
                rw [hdn] at HBL HWST
                go_wp2_with (first
                  | (go_at_call 62; refine HBL.out.mono ?_; rintro e w8 ⟨rfl, hD8, hg8⟩)
                  | fail)
                go_roundw
                case rel => exact ⟨i + 1, _, by omega, by go_num, by rw [HWST.out]; exact hD8, by rw [HWST.out]; rfl, HK05.out.grown hg8 (fun k e => .inl (.inl (Option.some.inj e).symm)), HV5.out⟩
                case measure => simp [intOf]; omega
    · obtain rfl : i = N := by omega
      go_wp2
      go_ret
      rw [H0.out]
      refine ⟨rfl, vs, vl', HD.out, HK.out, fun j hj => ?_⟩
      rcases hj with hj | hj | hj
      · exact .inl (.inl hj)
      · exact .inl (.inr (.inl hj))
      · rcases HV.out j hj with h1 | h1
        · exact .inl (.inr (.inr h1))
        · exact .inr h1

end Go.Proofs.Ytddnjlnhnnpgiaa
