/- Places that are chosen: free, unlike; as many as a write wants are there. Blocks are written where none stands. done.Add. The contract of marks.Set. -/
import Derived.Test.YtpalmobmabkadaaGreatDoorSfwM
import Derived.Test.YtpalmobmabkadaaGreatDoorTqM
import Derived.Test.YtpalmobmabkadaaGreatDoorMarks2M
namespace Go.Proofs.YtpalmobmabkadaaGreatDoor
open Go.RowKit
set_option maxRecDepth 20000

def cnt (a : Av) (i : Nat) : Nat := (List.range i).countP (bitAt a.ws)
theorem cnt_succ (a : Av) (i : Nat) : cnt a (i + 1) = cnt a i + if bitAt a.ws i then 1 else 0 := by
  unfold cnt
  rw [List.range_succ, List.countP_append]
  simp [List.countP_cons]
theorem cnt_more {a : Av} (h : ∀ j, a.n ≤ j → bitAt a.ws j = false) (d : Nat) : cnt a (a.n + d) = cnt a a.n := by
  induction d with
  | zero => rfl
  | succ d ih => rw [← Nat.add_assoc, cnt_succ, ih, h _ (by omega)]; rfl
theorem free_cnt {a : Av} {k : Nat} (h : a.Ok k) : a.free = cnt a a.n := by
  unfold Av.free
  rw [popAll_count]
  have := h.len
  have := h.room
  rw [show 64 * a.ws.length = a.n + (64 * a.ws.length - a.n) by omega]
  exact cnt_more h.out _
section
variable {a : Av} {k : Nat}
theorem flip_at (h : a.Ok k) {i : Nat} (hi : i < a.n) (j : Nat) : bitAt (a.flip i).ws j = if i = j then !bitAt a.ws j else bitAt a.ws j :=
  flip_bit _ _ _ (by have := h.len; have := h.room; omega)
theorem cnt_flip (h : a.Ok k) {i : Nat} (hi : i < a.n) (m : Nat) : cnt (a.flip i) m + (if i < m ∧ bitAt a.ws i = true then 1 else 0) = cnt a m + (if i < m ∧ bitAt a.ws i = false then 1 else 0) := by
  induction m with
  | zero => rfl
  | succ m ih =>
    rw [cnt_succ, cnt_succ, flip_at h hi m]
    by_cases hm : i = m
    · subst hm
      rw [if_neg (by omega), if_neg (by omega)] at ih
      cases hb : bitAt a.ws i <;> simp <;> omega
    · rw [if_neg hm]
      by_cases h1 : i < m
      · have h2 : i < m + 1 := by omega
        simp only [h1, h2, true_and] at ih ⊢
        omega
      · have h2 : ¬ i < m + 1 := by omega
        simp only [h1, h2, false_and, if_false, Nat.add_zero] at ih ⊢
        omega
theorem free_flip (h : a.Ok k) {i : Nat} (hi : i < a.n) : (a.flip i).free + (if bitAt a.ws i = true then 1 else 0) = a.free + (if bitAt a.ws i = false then 1 else 0) := by
  have := cnt_flip h hi a.n
  rw [free_cnt h, free_cnt (h.flip hi)]
  show cnt (a.flip i) a.n + _ = _
  simpa [hi] using this
theorem none_free (h : a.Ok k) (hf : a.first = none) : a.free = 0 := by
  rw [free_cnt h]
  have := first_is h
  rw [hf] at this
  have : ∀ n, cnt a n = 0 := by
    intro n
    induction n with
    | zero => rfl
    | succ n ih => rw [cnt_succ, ih, show bitAt a.ws n = false from this n]; rfl
  exact this a.n
end
/-- The first free place. -/
theorem Frees.take {a : Av} {k M : Nat} {T : Int → Prop} (h : Frees a M T) (ho : a.Ok k) (hf : 0 < a.free) : ∃ j : Nat, a.take = (((j : Int), 0), a.flip j) ∧ j < M ∧ ¬ T (j : Int) ∧ Frees (a.flip j) M (fun i => T i ∨ i = (j : Int)) ∧ (a.flip j).free + 1 = a.free := by
  cases hj : a.first with
  | none =>
    have := none_free ho hj
    omega
  | some j =>
    have h1 := first_is ho
    rw [hj] at h1
    have hlt := first_lt ho h1
    obtain ⟨hm, hT⟩ := (h.2 j).1 h1.1
    have h2 := free_flip ho hlt
    rw [h1.1] at h2
    simp at h2
    refine ⟨j, by unfold Av.take; rw [hj], hm, hT, ⟨h.1, fun i => ?_⟩, by omega⟩
    rw [flip_at ho hlt]
    by_cases hi : j = i
    · subst hi
      rw [if_pos rfl, h1.1]
      simp
    · rw [if_neg hi, h.2]
      have : ¬ ((i : Int) = (j : Int)) := by omega
      simp [this]
/-- Places that were chosen. -/
structure AtOk (at_ : List Int) (m M : Nat) (T : Int → Prop) : Prop where
  len : at_.length = m
  free : ∀ x ∈ at_, ∃ j : Nat, x = (j : Int) ∧ j < M ∧ ¬ T (j : Int)
  dis : at_.Nodup
theorem Frees.chosen {a : Av} {k M : Nat} {T : Int → Prop} (h : Frees a M T) (ho : a.Ok k) (m : Nat) (hf : m ≤ a.free) : AtOk (Av.some m a).1 m M T ∧ Frees (Av.some m a).2 M (fun i => T i ∨ i ∈ (Av.some m a).1) ∧ (Av.some m a).2.free + m = a.free := by
  induction m with
  | zero => exact ⟨⟨rfl, (fun x hx => by cases hx), List.nodup_nil⟩, h.eq fun j => ⟨.inl, fun hh => hh.elim id (fun e => by cases e)⟩, rfl⟩
  | succ m ih =>
    obtain ⟨h1, h2, h3⟩ := ih (by omega)
    obtain ⟨j, hj1, hj2, hj3, hj4, hj5⟩ := h2.take (Av.some_ok ho m) (by omega)
    have hs : Av.some (m + 1) a = ((Av.some m a).1 ++ [(j : Int)], (Av.some m a).2.flip j) := by rw [Av.some, hj1]
    rw [hs]
    refine ⟨⟨by rw [List.length_append, h1.len]; rfl, fun x hx => ?_, ?_⟩, hj4.eq fun i => ?_, by show ((Av.some m a).2.flip j).free + (m + 1) = _; omega⟩
    · rcases List.mem_append.1 hx with hx | hx
      · exact h1.free x hx
      · obtain rfl := List.mem_singleton.1 hx
        exact ⟨j, rfl, hj2, fun hT => hj3 (.inl hT)⟩
    · rw [List.nodup_append]
      refine ⟨h1.dis, by simp, fun x hx y hy e => ?_⟩
      obtain rfl := List.mem_singleton.1 hy
      subst e
      exact hj3 (.inr hx)
    · simp only [List.mem_append, List.mem_singleton]
      rw [or_assoc]
theorem cntP_succ (p : Nat → Bool) (M : Nat) : (List.range (M + 1)).countP p = (List.range M).countP p + if p M = true then 1 else 0 := by
  rw [List.range_succ, List.countP_append]
  simp [List.countP_cons]
def isIn (L : List Int) (j : Nat) : Bool := decide ((j : Int) ∈ L)
theorem isIn_iff (L : List Int) (j : Nat) : isIn L j = true ↔ (j : Int) ∈ L := by unfold isIn; exact decide_eq_true_iff
/-- So many names stand at so many places at most. -/
theorem cntL (L : List Int) (M : Nat) : (List.range M).countP (isIn L) ≤ L.length := by
  induction L with
  | nil =>
    rw [List.countP_eq_zero.2 (fun x _ hx => by rw [isIn_iff] at hx; cases hx)]
    exact Nat.zero_le _
  | cons x L ih =>
    have hpp : ∀ j : Nat, isIn (x :: L) j = true ↔ (j : Int) = x ∨ isIn L j = true := fun j => by rw [isIn_iff, isIn_iff, List.mem_cons]
    have key : ∀ M, (List.range M).countP (isIn (x :: L)) ≤ (List.range M).countP (isIn L) + if 0 ≤ x ∧ x < (M : Int) then 1 else 0 := by
      intro M
      induction M with
      | zero => simp
      | succ M ihM =>
        rw [cntP_succ, cntP_succ]
        have h1 := hpp M
        by_cases hx : (M : Int) = x
        · rw [if_neg (by omega)] at ihM
          rw [if_pos (show 0 ≤ x ∧ x < ((M + 1 : Nat) : Int) by omega)]
          have : (if isIn (x :: L) M = true then 1 else 0 : Nat) ≤ 1 := by split <;> omega
          omega
        · have e : (if 0 ≤ x ∧ x < ((M + 1 : Nat) : Int) then 1 else 0) = (if 0 ≤ x ∧ x < (M : Int) then 1 else 0 : Nat) := by
            by_cases h : 0 ≤ x ∧ x < (M : Int)
            · rw [if_pos h, if_pos (by omega)]
            · rw [if_neg h, if_neg (by omega)]
          rw [e]
          have e2 : (if isIn (x :: L) M = true then 1 else 0 : Nat) = if isIn L M = true then 1 else 0 := by
            by_cases h : isIn L M = true
            · rw [if_pos h, if_pos (h1.2 (.inr h))]
            · rw [if_neg h, if_neg (fun hc => (h1.1 hc).elim hx h)]
          rw [e2]
          omega
    have := key M
    rw [List.length_cons]
    have h1 : (if 0 ≤ x ∧ x < (M : Int) then 1 else 0 : Nat) ≤ 1 := by split <;> omega
    omega
/-- What a map tells of is of a block below n. -/
def Dom (f : SaysS) (n : Nat) : Prop := ∀ x s, f x = some s → 0 ≤ x ∧ x < (n : Int)
theorem names_len (f : SaysS) (n : Nat) : ((List.range n).filterMap fun i : Nat => f (i : Int)).length ≤ n := by
  have := List.length_filterMap_le (fun i : Nat => f (i : Int)) (List.range n)
  rwa [List.length_range] at this
theorem names_mem {f : SaysS} {n : Nat} (h : Dom f n) {j : Int} (hj : ∃ x, f x = some j) : j ∈ (List.range n).filterMap fun i : Nat => f (i : Int) := by
  obtain ⟨x, hx⟩ := hj
  obtain ⟨h0, h1⟩ := h x j hx
  rw [List.mem_filterMap]
  exact ⟨x.toNat, List.mem_range.2 (by omega), by rw [show ((x.toNat : Nat) : Int) = x by omega]; exact hx⟩
theorem Frees.room {a : Av} {k n : Nat} {fn fs : SaysS} (h : Frees a (2 * n + 8) (fun j => (∃ x, fn x = some j) ∨ ∃ x, fs x = some j)) (ho : a.Ok k) (hn : Dom fn n) (hs : Dom fs n) : 8 ≤ a.free := by
  obtain ⟨L, hL⟩ : ∃ L, L = ((List.range n).filterMap fun i : Nat => fn (i : Int)) ++ ((List.range n).filterMap fun i : Nat => fs (i : Int)) := ⟨_, rfl⟩
  have hLl : L.length ≤ 2 * n := by
    rw [hL, List.length_append]
    have l1 := names_len fn n
    have l2 := names_len fs n
    omega
  have hc := cntL L (2 * n + 8)
  have key : ∀ M, M ≤ 2 * n + 8 → M ≤ cnt a M + (List.range M).countP (isIn L) := by
    intro M hM
    induction M with
    | zero => exact Nat.zero_le _
    | succ M ih =>
      have := ih (by omega)
      rw [cnt_succ, cntP_succ]
      cases hb : bitAt a.ws M with
      | true => rw [if_pos rfl]; omega
      | false =>
        have hT : (∃ x, fn x = some (M : Int)) ∨ ∃ x, fs x = some (M : Int) := by
          apply Classical.byContradiction
          intro hc
          have := (h.2 M).2 ⟨by omega, hc⟩
          rw [hb] at this
          cases this
        have hm : isIn L M = true := by
          rw [isIn_iff, hL, List.mem_append]
          exact hT.imp (names_mem hn) (names_mem hs)
        rw [if_pos hm]
        omega
  have h1 := key (2 * n + 8) (Nat.le_refl _)
  rw [free_cnt ho, h.1]
  omega
end Go.Proofs.YtpalmobmabkadaaGreatDoor

namespace Go.Proofs.YtpalmobmabkadaaGreatDoor
open Go.RowKit
set_option maxRecDepth 20000

/-- Sectors are written one by one, until the power goes. -/
def Dv.wrs (d : Dv) (first : Int) (ats : List Int) (l : List UInt8) : Nat → Dv × Int
  | 0 => (d, 0)
  | k + 1 => if (d.wrs first ats l k).2 ≠ 0 then d.wrs first ats l k else (d.wrs first ats l k).1.write (first + ats.getD k 0) ((l.drop (8 * k)).take 8) 1
theorem Dv.wrs_n (d : Dv) (first : Int) (ats : List Int) (l : List UInt8) (k : Nat) : (d.wrs first ats l k).1.n = d.n := by
  induction k with
  | zero => rfl
  | succ k ih =>
    rw [Dv.wrs]
    split
    · exact ih
    · rw [Dv.write_n, ih]
theorem Dv.wrs_stays (d : Dv) (first : Int) (ats : List Int) (l : List UInt8) (k m : Nat) (hk : k ≤ m) (h : (d.wrs first ats l k).2 ≠ 0) : d.wrs first ats l m = d.wrs first ats l k := by
  induction m with
  | zero =>
    obtain rfl : k = 0 := by omega
    rfl
  | succ m ih =>
    rcases Nat.lt_or_ge m k with h1 | h1
    · obtain rfl : k = m + 1 := by omega
      rfl
    · rw [Dv.wrs, ih h1, if_pos h]
theorem Dv.write_up (d : Dv) (x : Int) (l : List UInt8) (h : (d.write x l 1).2 = 0) : (d.write x l 1).1.down = false := by
  unfold Dv.write Dv.write at h ⊢
  simp only [ne_eq, not_true_eq_false, if_false] at h ⊢
  unfold pw at h
  split at h
  · cases h
  · next h1 => simpa using h1
theorem Dv.wrs_up (d : Dv) (hd : d.down = false) (first : Int) (ats : List Int) (l : List UInt8) (k : Nat) (h : (d.wrs first ats l k).2 = 0) : (d.wrs first ats l k).1.down = false := by
  cases k with
  | zero => exact hd
  | succ k =>
    rw [Dv.wrs] at h ⊢
    split at h
    · next h1 => exact absurd h h1
    · next h1 =>
      rw [if_neg h1]
      exact Dv.write_up _ _ _ h
theorem Dv.wrs_pw (d : Dv) (first : Int) (ats : List Int) (l : List UInt8) (k : Nat) : (d.wrs first ats l k).2 = 0 ∨ (d.wrs first ats l k).2 = 50 := by
  induction k with
  | zero => exact .inl rfl
  | succ k ih =>
    rw [Dv.wrs]
    split
    · exact ih
    · exact Dv.write_pw _ _ _ _
/-- The blocks from x on stand elsewhere. -/
def upd (f : SaysS) (x : Int) (ats : List Int) (k : Nat) : SaysS := fun y => if x ≤ y ∧ y < x + (k : Int) then some (ats.getD (y - x).toNat 0) else f y
theorem upd_0 (f : SaysS) (x : Int) (ats : List Int) : upd f x ats 0 = f := by
  funext y
  unfold upd
  rw [if_neg (by omega)]
theorem upd_succ (f : SaysS) (x : Int) (ats : List Int) (k : Nat) : (fun y => if y = x + (k : Int) then some (ats.getD k 0) else upd f x ats k y) = upd f x ats (k + 1) := by
  funext y
  unfold upd
  by_cases h : y = x + (k : Int)
  · rw [if_pos h, if_pos (by omega)]
    rw [show (y - x).toNat = k by omega]
  · rw [if_neg h]
    by_cases h2 : x ≤ y ∧ y < x + (k : Int)
    · rw [if_pos h2, if_pos (by omega)]
    · rw [if_neg h2, if_neg (by omega)]
section
variable {w : World} {ops : Array Oper} {rest : List Oper} {o : Oper} {a : Act} {Q : Exit → Act → World → Prop}
/-- A block is read where it lies among others. -/
theorem wpL_blk (hgd : o.guard = none) (x : Operand) (ho : o.op = .load 116 x) {R i m c B : Nat} {l : List UInt8} (hx : a.eval x = .pointer (some ⟨R, i * 8, none⟩)) (hr : Rd w B 8 (some ⟨R, 0, none⟩) m c (u8s l)) (hi : i < m)
    (h : wpList Tryz.prog ops Q rest (a.put o.dst (blkv ((l.drop (8 * i)).take 8))) w) : wpList Tryz.prog ops Q (o :: rest) a w := by
  have hl : l.length = m * 8 := by have := hr.2.2.1; rwa [u8s_len] at this
  refine wpList_load_mid hgd _ x ho R (i * 8) hx (u8s ((l.drop (8 * i)).take 8)) _ ?_ Tryz.underlying116 rfl ?_ h
  · intro j u hu
    obtain ⟨b, o', hb, _, hc⟩ := hr.2.2.2 (by omega)
    cases hb
    rw [u8s_take, u8s_drop, List.getElem?_take] at hu
    split at hu
    · rw [List.getElem?_drop] at hu
      have := hc (8 * i + j) u hu
      rwa [Nat.zero_add, Nat.mul_comm 8 i] at this
    · cases hu
  · rw [size_blk, u8s_len, List.length_take, List.length_drop]
    congr 1
    omega
end
theorem is_at {q c m B i : Nat} {w : World} {ats : List Int} (h : Rd w B 1 (some ⟨q, 0, none⟩) m c (is ats)) (hi : i < m) : w.cell? ⟨q, i, none⟩ = some (.int .i64 (ats.getD i 0)) := by
  have hl := h.len
  rw [is_len] at hl
  obtain ⟨b, o, u, hb, _, hu, hc⟩ := h.at_ hi
  cases hb
  have hu2 : (is ats)[i]? = some (.int .i64 (ats.getD i 0)) := by
    rw [List.getD]
    have : i < ats.length := by omega
    simp [is, this]
  rw [hu2] at hu
  obtain rfl := Option.some.inj hu
  rwa [Nat.zero_add] at hc
theorem AtOk.at_ {ats : List Int} {m M i : Nat} {T : Int → Prop} (h : AtOk ats m M T) (hi : i < m) : ∃ j : Nat, ats.getD i 0 = (j : Int) ∧ j < M ∧ ¬ T (j : Int) := by
  have hl := h.len
  have hi' : i < ats.length := by omega
  have : ats.getD i 0 = ats[i] := by rw [List.getD]; simp [hi']
  rw [this]
  exact h.free _ (List.getElem_mem hi')
theorem Slx.wide {X : Nat → Prop} {w W : World} {B g T S bn bs M kn ks M' kn' : Nat} {d : Dv} {t : Tv} {v : Sv} {fn fs : SaysS} (h : Slx X w W B g T S bn bs M kn ks d t v fn fs) (hM : M ≤ M') (hk : kn ≤ kn') : Slx X w W B g T S bn bs M' kn' ks d t v fn fs := ⟨h.tlx.le hM, h.row, h.now.mono hk, h.saved, h.new, h.apart⟩
/-- What a write leaves. -/
def Written (X : Nat → Prop) (w W : World) (B g T S bn bs M kn ks : Nat) (d : Dv) (t : Tv) (v : Sv) (fn fs : SaysS) (x : Nat) (l : List UInt8) (m : Nat) (e : Ending) (w' : World) : Prop :=
  ∃ ats, AtOk ats m (2 * v.n + 8) (fun j => (∃ x, fn x = some j) ∨ ∃ x, fs x = some j) ∧ e = .returned (.int .i64 (d.wrs v.first ats l m).2) ∧ Slx X w w' B g T S bn bs (M + 64 * m) (kn + m) ks (d.wrs v.first ats l m).1 t v (if (d.wrs v.first ats l m).2 = 0 then upd fn x ats m else fn) fs ∧ Keeps (Off X w) W w'
set_option maxHeartbeats 4000000 in
theorem swrite_any {X : Nat → Prop} {w W : World} {B g T S bn bs M kn ks : Nat} {d : Dv} {t : Tv} {v : Sv} {fn fs : SaysS} (h : Slx X w W B g T S bn bs M kn ks d t v fn fs) (hT : Tab W) (hd : d.down = false) (hM : M ≤ 90000) (hkn : kn ≤ 100000) (h64 : v.n ≤ 64) (hpn : Pl fn (2 * v.n + 8)) (hps : Pl fs (2 * v.n + 8)) (hdn : Dom fn v.n) (hds : Dom fs v.n)
    (hf0 : 0 ≤ v.first) (hf1 : v.first + (2 * v.n + 8 : Nat) ≤ d.n) (Lb c m : Nat) (l : List UInt8) (hl : Rd W W.heap.size 8 (some ⟨Lb, 0, none⟩) m c (u8s l)) (hLX : X Lb ∨ Lb < w.heap.size) (hm1 : 1 ≤ m) (hm8 : m ≤ 8) (x : Nat) (hx : x + m ≤ v.n) :
    Calls Tryz.prog 51 #[.pointer (some ⟨S, 0, none⟩), .int .u32 (x : Int), .slice (some ⟨Lb, 0, none⟩) m c] W (Written X w W B g T S bn bs M kn ks d t v fn fs x l m) := by
  have h0 : 0 < W.heap.size := hT.1
  have HF := Lib.hid (sfree_any h.row h.now h.saved h64 hpn hps h0)
  have HH := Lib.hid h
  have HT := Lib.hid hT
  have HRD := Lib.hid hl
  have HDD := Lib.hid (And.intro hdn hds)
  have HM := Lib.hid hM
  have HKN := Lib.hid hkn
  have HFR := Lib.hid (And.intro hf0 hf1)
  have HXN := Lib.hid hx
  have H64 := Lib.hid h64
  have HLX := Lib.hid hLX
  have HD := Lib.hid hd
  have HMM := Lib.hid (And.intro hm1 hm8)
  have hm3 : (m : Int) ≤ 8 := by omega
  unfold Freed at HF
  unfold Written
  clear h hT hl hdn hds hM hkn hf0 hf1 hx hLX hd h0 hpn hps h64
  go_enter Tryz.func51, Tryz.ntmps51
  go_wp2_with (first
    | (go_at_call 90; refine HF.out.mono ?_; clear HF; rintro e w1 ⟨ga, R, k, a, rfl, hA, hFr, hb1, hga, hR⟩
       have hroom := hFr.room hA.ok HDD.out.1 HDD.out.2
       have hcho := hFr.chosen hA.ok m (by omega)
       have hSm := asome_any hA (HT.out.below hb1) (m : Int) (by omega) (by omega)
       unfold Somed at hSm
       rw [show a.someE (m : Int) = 0 by unfold Av.someE; rw [if_neg (by omega), if_neg (by omega)], show a.someN (m : Int) = m by unfold Av.someN; rw [if_neg (by omega), if_neg (by omega), Int.toNat_natCast]] at hSm
       have HSm := Lib.hid hSm
       have HCH := Lib.hid hcho.1
       have HB1 := Lib.hid hb1
       have HRR := Lib.hid hR
       clear hA hFr hb1 hga hR hroom hcho hSm)
    | (go_at_call 91; refine HSm.out.mono ?_; clear HSm; rintro e w2 ⟨v2, rfl, ho2, hA2, hg2⟩
       have HO2 := Lib.hid ho2
       have HB2 := Lib.hid (HB1.out.grown hg2 HB1.out.size (fun k e => by cases e; exact HRR.out))
       have HG2 := Lib.hid (show w1.heap.size ≤ w2.heap.size from hg2.size)
       clear ho2 hA2 hg2)
    | fail)
  obtain ⟨A2, c2, rfl⟩ := ownsRow_form HO2.out
  obtain ⟨q, hq⟩ : ∃ q, A2 = some ⟨q, 0, none⟩ := by
    rcases HO2.out.2 with ⟨hv, hz⟩ | ⟨g', cap', cur, hv, _⟩
    · have := HMM.out.1
      omega
    · cases hv
      exact ⟨_, rfl⟩
  subst hq
  have hql := HO2.out.lt q rfl
  have HQ := Lib.hid (show W.heap.size ≤ q ∧ q < w2.heap.size from ⟨Nat.le_trans HB1.out.size hql.1, hql.2⟩)
  have HAT := Lib.hid (ownsRow_rd HO2.out)
  have HL2 := Lib.hid ((HRD.out.below HB2.out).more HB2.out.size)
  obtain ⟨ats, hats⟩ : ∃ ats, ats = (Av.some m a).1 := ⟨_, rfl⟩
  rw [← hats] at HAT HCH
  have HX2 := Lib.hid (HH.out.more (X' := fun i => X i ∨ i = q) HB2.out (fun i hi => by
    rcases hi with hi | rfl
    · exact ⟨.inl hi, Nat.lt_of_lt_of_le (HH.out.xlt i hi) HB2.out.size⟩
    · exact ⟨.inr HQ.out.1, HQ.out.2⟩))
  clear HO2 hql hats HRD HB1 HG2 HRR
  go_loopw [26] (fun ir wr => ∃ i, i ≤ m ∧ ir = .int .i64 ((i : Nat) : Int) ∧ Hid ((d.wrs v.first ats l i).2 = 0) ∧ Hid (Slx (fun i => X i ∨ i = q) w wr B g T S bn bs (M + 64 * i) kn ks (d.wrs v.first ats l i).1 t v fn fs) ∧ Hid (Keeps (Off (fun i => X i ∨ i = q) w) w2 wr)) (fun ir _ => m - (intOf ir).toNat)
  case atStart => exact ⟨0, Nat.zero_le _, rfl, Lib.hid rfl, HX2, Lib.hid (Keeps.refl _ _)⟩
  case round =>
    clear HX2
    obtain ⟨i, hi, rfl, HE, HS, HK⟩ := hrel
    by_cases hlt : i < m
    · have HLr := Lib.hid (off_rd HK.out HL2.out (fun _ b o e => by cases e; exact HLX.out.imp .inl id))
      have HAr := Lib.hid (off_rd HK.out HAT.out (fun _ b o e => by cases e; exact .inl (.inr rfl)))
      have hllen : l.length = 8 * m := by have := HL2.out.2.2.1; rw [u8s_len] at this; omega
      have HLL := Lib.hid hllen
      clear hllen
      have hi3 : (i : Int) ≤ 8 := by omega
      go_wp2_with (first
        | (go_loud (refine wpL_blk rfl (.tmp 29) rfl rfl HLr.out hlt ?_))
        | (refine wpL_bnew rfl rfl ?_; intro W1 b1 hN; obtain ⟨hb1e, hr1, hl1, hz1⟩ := hN)
        | (refine wpL_bstore rfl (.tmp 10) (.tmp 30) rfl rfl rfl hr1.out zb_len (by rw [List.length_take, List.length_drop, HLL.out]; omega) ?_; intro W2 hr2 hg2 hz2)
        | fail)
      have hbW : Below wr.heap.size wr W2 := hl1.grown hg2 hl1.size (fun k e => by have := Option.some.inj e; have := hb1e.out; omega)
      have HBW := Lib.hid hbW
      have HB1 := Lib.hid (show wr.heap.size ≤ b1 by have := hb1e.out; omega)
      have HR2 := Lib.hid hr2.out
      have k0 := (HS.out.below hbW).row.c0
      have k2 := (HS.out.below hbW).row.c2
      have kA := is_at (HAr.out.below hbW) hlt
      obtain ⟨j, hj, hjM, _⟩ := HCH.out.at_ hlt
      have HJ := Lib.hid hj
      rw [hj] at kA
      have hdn := HS.out.tlx.ok.n
      rw [Dv.wrs_n] at hdn
      have hF := HFR.out
      have h64 := H64.out
      have f1 : v.first ≤ 65536 := by omega
      have f2 : (j : Int) ≤ 136 := by omega
      have f3 : 0 ≤ v.first := hF.1
      have f4 : -65536 ≤ v.first := by omega
      have HW := Lib.hid (slx_dwrite HS.out (by have := HM.out; omega) (Dv.wrs_up d HD.out v.first ats l i HE.out) hbW.drew (v.first + (j : Int)) b1 HB1.out ((l.drop (8 * i)).take 8) ⟨Nat.le_refl _, by unfold maxLen; omega, by rw [u8s_len, List.length_take, List.length_drop, HLL.out]; omega, fun _ => ⟨b1, 0, rfl, (show b1 < W2.heap.size from (Array.getElem?_eq_some_iff.1 HR2.out).1), fun z u hu => by rw [cell_of_row W2.drew b1 (0 + z) _ _ _ HR2.out]; simpa using hu⟩⟩ (by omega) (by rw [Dv.wrs_n]; omega))
      have hnext : d.wrs v.first ats l (i + 1) = (d.wrs v.first ats l i).1.write (v.first + (j : Int)) ((l.drop (8 * i)).take 8) 1 := by rw [Dv.wrs, if_neg (by rw [HE.out]; simp), HJ.out]
      rw [← hnext] at HW
      clear hb1e hr1 hl1 hz1 hg2 hz2 hr2 hbW hj hjM hdn hF h64 hnext HLr HAr
      go_frame
      refine wp_segs [([0, 1, 2, 3, 4, 5, 6, 7, 8, 9, 10, 11, 12, 13], 14)] [15] (fun z => z.cell? ⟨S, 0, none⟩ = some (.pointer (some ⟨g, 0, none⟩)) ∧ z.cell? ⟨S, 2, none⟩ = some (.int .i64 v.first) ∧ z.cell? ⟨q, i, none⟩ = some (.int .i64 (j : Int))) (by kernel_rfl) (by kernel_rfl) (fun d _ _ _ _ h => by cases d <;> exact h) ⟨k0, k2, kA⟩ ?_
      intro f hf
      have F1 := fun z => (hf z).1
      have F2 := fun z => (hf z).2.1
      have F3 := fun z => (hf z).2.2
      simp only [pickI, Option.toList_some, List.cons_append, List.nil_append, List.getElem?_toArray, List.getElem?_cons_succ, List.getElem?_cons_zero]
      repeat (go_big_quiet_step (fail))
      refine wpQuiet_nil ?_
      clear F1 F2 F3 hf f
      refine seg_op (by simp only [List.getElem?_toArray, List.getElem?_cons_succ, List.getElem?_cons_zero]; rfl) fun K hK => ?_
      go_simp
      refine HW.out.mono ?_
      rintro e w3 ⟨rfl, hS3, hK3⟩
      have kA3 : w3.cell? ⟨q, i, none⟩ = some (.int .i64 (j : Int)) := hK3.cell (w := W2.drew) kA (fun hF => hF.1.2 (.inr rfl))
      have HS3 := Lib.hid (hS3.wide (M' := M + 64 * (i + 1)) (kn' := kn) (by omega) (Nat.le_refl _))
      have HK3 : Hid (Keeps (Off (fun i => X i ∨ i = q) w) w2 w3) := by
        have h1 : Keeps (Off (fun i => X i ∨ i = q) w) wr W2.drew := (Keeps.of_below HBW.out.drew)
        exact Lib.hid ((HK.out.trans h1 (fun i hi => .inl hi)).trans hK3 (fun i hi => .inl hi.1))
      have z0 := hS3.row.c0
      have z2 := hS3.row.c2
      refine hK.out _ _ (seg_keep ⟨z0, z2, kA3⟩ ?_)
      clear hK K hS3 hK3 kA3 z0 z2 HW k0 k2 kA
      rcases Dv.wrs_pw d v.first ats l (i + 1) with he | he
      · have HE3 := Lib.hid he
        rw [he]
        clear he
        intro f hf
        simp only [pickI, Option.toList_some, List.cons_append, List.nil_append, List.getElem?_toArray, List.getElem?_cons_succ, List.getElem?_cons_zero]
        repeat (go_big_quiet_step (fail))
        refine wpQuiet_nil ?_
        clear hf f
        go_wp2_with (fail)
        go_roundw
        case rel => exact ⟨i + 1, by omega, rfl, HE3, HS3, HK3⟩
        case measure => simp [intOf]; omega
      · have hst := Dv.wrs_stays d v.first ats l (i + 1) m (by omega) (by rw [he]; decide)
        have HST := Lib.hid hst
        have HE3 := Lib.hid he
        rw [he]
        clear he hst
        intro f hf
        simp only [pickI, Option.toList_some, List.cons_append, List.nil_append, List.getElem?_toArray, List.getElem?_cons_succ, List.getElem?_cons_zero]
        repeat (go_big_quiet_step (fail))
        refine wpQuiet_nil ?_
        clear hf f
        go_wp2_with (fail)
        go_ret
        refine ⟨ats, HCH.out, (by rw [HST.out, HE3.out]; rfl), ?_, ?_⟩
        · rw [HST.out, HE3.out, if_neg (by decide)]
          exact (HS3.out.wide (by omega) (by omega)).less (fun i hi => .inl hi)
        · exact (Keeps.of_below HB2.out).trans (HK3.out.wide (fun i hi => Off.less (fun i hi => .inl hi) hi)) (fun i hi => .inl hi)
    · obtain rfl : i = m := by omega
      have h1q : W.heap.size ≤ q := HQ.out.1
      have HAr := Lib.hid (off_rd HK.out HAT.out (fun _ b o e => by cases e; exact .inl (.inr rfl)))
      go_wp2_with (fail)
      obtain ⟨dm, hdm⟩ : ∃ dm, dm = (d.wrs v.first ats l i).1 := ⟨_, rfl⟩
      rw [← hdm] at HS
      have HDM := Lib.hid hdm
      clear hdm
      have hx64 : (x : Int) ≤ 64 := by have := HXN.out; have := H64.out; omega
      go_loopw [52] (fun ir wq => ∃ k, k ≤ i ∧ ir = .int .i64 ((k : Nat) : Int) ∧ Hid (Slx (fun z => X z ∨ z = q) w wq B g T S bn bs (M + 64 * i) (kn + k) ks dm t v (upd fn x ats k) fs) ∧ Hid (Keeps (Off (fun z => X z ∨ z = q) w) w2 wq)) (fun ir _ => i - (intOf ir).toNat)
      case atStart => exact ⟨0, Nat.zero_le _, rfl, Lib.hid (by rw [upd_0]; exact HS.out), HK⟩
      case round =>
        clear HS HK HAr
        obtain ⟨k, hk, rfl, HS, HK⟩ := hrel
        by_cases hlt2 : k < i
        · have HAr := Lib.hid (off_rd HK.out HAT.out (fun _ b o e => by cases e; exact .inl (.inr rfl)))
          obtain ⟨j, hj, hjM, _⟩ := HCH.out.at_ hlt2
          have kA := is_at HAr.out hlt2
          rw [hj] at kA
          have k22 := HS.out.row.c22
          have hk3 : (k : Int) ≤ 8 := by omega
          have hj3 : (j : Int) ≤ 136 := by have := H64.out; omega
          obtain ⟨w', hput, hm', hg', hz'⟩ := MapS.put (w := wr.drew) Tryz.underlying23 Tryz.underlying70 (HS.out.now.same rfl) (by have := HKN.out; unfold maxLen; omega) ((x : Int) + (k : Int)) ⟨by omega, by omega⟩ (j : Int) ⟨by omega, by omega⟩
          have HP := Lib.hid hput
          have hfn : (fun y => if y = (x : Int) + (k : Int) then some (j : Int) else upd fn x ats k y) = upd fn x ats (k + 1) := by rw [← hj]; exact upd_succ fn x ats k
          rw [hfn] at hm'
          have hg2 : wr.grownBy w' (some bn) := ⟨hg'.os, hg'.tape, hg'.output, hg'.size, hg'.block⟩
          have hS2 := HS.out.setNow hg2 hm'
          have HS2 := Lib.hid hS2
          have HK2 : Hid (Keeps (Off (fun z => X z ∨ z = q) w) w2 w') := Lib.hid (HK.out.grown hg2 (fun z e => .inl (by
            have := Option.some.inj e
            subst this
            refine ⟨HS.out.new.2.1, fun hx => ?_⟩
            exact HS.out.apart.2.2.2.2.1 hx)))
          have kA2 : w'.cell? ⟨q, k, none⟩ = some (.int .i64 (j : Int)) := is_at (off_rd HK2.out HAT.out (fun _ b o e => by cases e; exact .inl (.inr rfl))) hlt2 |>.trans (by rw [hj])
          have k22' := hS2.row.c22
          clear hput hm' hg' hz' hg2 hS2 hfn hj hjM
          go_wp2_with (fail)
          refine wp_segs [([0, 1, 2, 3, 4, 5, 6, 7, 8, 9, 10, 11], 12)] [] (fun z => z.cell? ⟨S, 22, none⟩ = some (.map (some bn)) ∧ z.cell? ⟨q, k, none⟩ = some (.int .i64 (j : Int))) (by kernel_rfl) (by kernel_rfl) (fun d _ _ _ _ h => by cases d <;> exact h) ⟨k22, kA⟩ ?_
          intro f hf
          have F1 := fun z => (hf z).1
          have F2 := fun z => (hf z).2
          simp only [pickI, Option.toList_some, List.cons_append, List.nil_append, List.getElem?_toArray, List.getElem?_cons_succ, List.getElem?_cons_zero]
          repeat (go_big_quiet_step (fail))
          refine wpQuiet_nil ?_
          clear F1 F2 hf f
          refine seg_op (by simp only [List.getElem?_toArray, List.getElem?_cons_succ, List.getElem?_cons_zero]; rfl) fun K hK => ?_
          rw [if_pos (by rfl)]
          refine wp_update _ _ _ _ rfl rfl rfl rfl HP.out ?_
          refine hK.out _ _ (seg_keep ⟨k22', kA2⟩ ?_)
          clear hK K
          intro f hf
          refine wpQuiet_nil ?_
          clear hf f
          go_wp2_with (fail)
          go_roundw
          case rel => exact ⟨k + 1, by omega, rfl, HS2, HK2⟩
          case measure => simp [intOf]; omega
        · obtain rfl : k = i := by omega
          go_wp2_with (fail)
          go_ret
          refine ⟨ats, HCH.out, (by rw [HE.out]; rfl), ?_, ?_⟩
          · rw [HE.out, if_pos rfl, ← HDM.out]
            exact HS.out.less (fun i hi => .inl hi)
          · exact (Keeps.of_below HB2.out).trans (HK.out.wide (fun i hi => Off.less (fun i hi => .inl hi) hi)) (fun i hi => .inl hi)
end Go.Proofs.YtpalmobmabkadaaGreatDoor

namespace Go.Proofs.YtpalmobmabkadaaGreatDoor
open Go.RowKit
set_option maxRecDepth 20000

def addT (T : List Cl) (c r : Nat) : List Cl := if at8 T c (fun p => !oldN p.1 r) then T.set (c - 1) (withN (T.getD (c - 1) (0, 0)) r) else T
theorem addT_ok {T : List Cl} (hT : Tok T) (c r : Nat) (hr : r < 18446744073709551616) : Tok (addT T c r) := by
  unfold addT
  split
  · next h =>
    simp only [at8, Bool.and_eq_true, Bool.not_eq_true'] at h
    refine ⟨by rw [List.length_set]; exact hT.1, fun p hp => ?_⟩
    rcases List.mem_or_eq_of_mem_set hp with hp | rfl
    · exact hT.2 p hp
    · exact withN_ok (hT.get _) hr h.2
  · exact hT
theorem TabT.opStore {P : Program} {w : World} {ty ct : TypeId} {o : Oper} {a : Act} {Q : Exit → Act → World → Prop} {K : Act → World → Prop} (h : TabT P ty ct) (x y : Operand) (ho : o.op = .store ty x y) {g : Nat} {e : TypeId} {S T : List Cl} (hx : a.eval x = .pointer (some ⟨g, 0, none⟩)) (hy : a.eval y = tbv T) (hr : w.heap[g]? = some (.cells (tcells S).toArray e (0, 0))) (hS : S.length = 8) (hT : T.length = 8)
    (hk : ∀ W : World, Hid (W.heap[g]? = some (.cells (tcells T).toArray e (0, 0))) → w.grownBy W (some g) → Hid (W.heap.size = w.heap.size) → K (a.put o.dst undef) W) : o.wp P a w K Q := by
  have hrun := h.stores hr hS hT
  unfold Oper.wp
  simp only [execOp, ho, hx, hy, Sem.run_bind, hrun, Result.andThen_ok, Sem.run_pure]
  exact hk _ (Lib.hid (setRow_heap w g _ _ e _ hr)) ⟨rfl, rfl, rfl, by simp, fun k _ hk => setRow_other w g k _ (fun e => hk (by rw [e]))⟩ (Lib.hid (by simp))
theorem put_cl {w : World} {g k : Nat} {T : List Cl} {e : TypeId} (hr : w.heap[g]? = some (.cells (tcells T).toArray e (0, 0))) (p : Cl) :
    ((w.setCell ⟨g, k * 2, none⟩ (.int .u64 (p.1 : Int))).setCell ⟨g, k * 2 + 1, none⟩ (.int .u16 (p.2 : Int))).heap[g]? = some (.cells (tcells (T.set k p)).toArray e (0, 0)) := by
  rw [heap_setCell_same _ g _ _ _ _ (heap_setCell_same w g _ _ _ _ hr)]
  rw [← tcells_set]
  simp

set_option maxHeartbeats 2000000 in
theorem add8_no (T : List Cl) (c r : Nat) (w : World) (hT : Tok T) (hb : at8 T c (fun p => !oldN p.1 r) = false) :
    Calls Tryz.prog 53 #[tbv T, .int .u64 (c : Int), .int .u64 (r : Int)] w fun e w' => e = .returned (.tuple #[tbv T, .bool false]) ∧ Below w.heap.size w w' := by
  have hh := fun W g hc hg => asks_add T c r g W hT hc hg
  rw [hb] at hh
  have HT := Lib.hid hT.1
  have HH := Lib.hid hh
  clear hh hT hb
  go_enter Tryz.func53, Tryz.ntmps53
  go_wp2_with (first
    | (refine wpL_tbox rfl (.tmp 0) rfl rfl ?_; intro W0 b3 hN; obtain ⟨hb3, hr3, hl3, hz3⟩ := hN)
    | (refine tabA.wpNew (o := ⟨some 6, _, _, _, _, _⟩) rfl rfl ?_; intro W1 b6 hN; obtain ⟨hb6, hr6, hl6, hz6⟩ := hN
       have h3 := Lib.hid (row_below (row_old _ hr3.out) hl6)
       have h5 := Lib.hid (row_below (heap_alloc_new W0 _) hl6)
       have hu6 := unal hl6
       have e5 : W0.heap.size + 1 = b6 := by rw [hb6.out]; simp
       have E5 := Lib.hid e5; clear e5
       have lt3 : b3 < b6 := by have := E5.out; have := hz3.out; omega
       have lt5 : W0.heap.size < b6 := by have := E5.out; omega)
    | (refine tabA.wpLoad (o := ⟨some 9, _, _, _, _, _⟩) rfl (.tmp 3) rfl rfl h3.out HT.out ?_)
    | (refine tabA.wpNew (o := ⟨some 8, _, _, _, _, _⟩) rfl rfl ?_; intro W2 b8 hN; obtain ⟨hb8, hr8, hl8, hz8⟩ := hN
       have h3' := Lib.hid (row_below h3.out hl8)
       have h5' := Lib.hid (row_below h5.out hl8)
       have h6' := Lib.hid (row_below hr6.out hl8)
       have lt6 : b6 < b8 := by have := hb8.out; have := hz6.out; omega)
    | (refine tabA.wpStore rfl (.tmp 8) (.tmp 9) rfl rfl rfl hr8.out rfl HT.out ?_; intro W3 hr38 hg38 hz38
       have h33 := Lib.hid (row_far h3'.out hg38 (fun e => by have := Option.some.inj e; omega))
       have h35 := Lib.hid (row_far h5'.out hg38 (fun e => by have := Option.some.inj e; omega))
       have h36 := Lib.hid (row_far h6'.out hg38 (fun e => by have := Option.some.inj e; omega)))
    | (refine tabA.wpLoad (o := ⟨some 10, _, _, _, _, _⟩) rfl (.tmp 3) rfl rfl h33.out HT.out ?_)
    | (go_at_call 54; refine (HH.out _ _ (cell_of_row _ _ 0 _ _ _ h35.out) (by have := (Array.getElem?_eq_some_iff.1 h35.out).1; exact this)).mono ?_; rintro e w4 ⟨rfl, hb4⟩
       have h43 := Lib.hid (row_below h33.out hb4)
       have h45 := Lib.hid (row_below h35.out hb4)
       have h46 := Lib.hid (row_below h36.out hb4)
       have h48 := Lib.hid (row_below hr38.out hb4)
       have hlow : Below w.heap.size w w4 := (((hl3.trans (hu6.mono hl3.size)).trans (hl8.mono (Nat.le_trans hl3.size hu6.size))).grown hg38 (Nat.le_trans hl3.size (Nat.le_trans hu6.size hl8.size)) (fun k e => by cases e; have := hl3.size; omega)).trans (hb4.mono (by have := hl3.size; have := hu6.size; have := hl8.size; have := hz38.out; omega)))
    | fail)
  refine wp_segs [([0, 1, 2, 3], 4)] [5] (fun x => x.heap[b3]? = some (.cells (tcells T).toArray 41 (0, 0)) ∧ x.heap[b8]? = some (.cells (tcells T).toArray 41 (0, 0))) (by kernel_rfl) (by kernel_rfl) (fun d _ _ _ _ h => by cases d <;> exact h) ⟨h43.out, h48.out⟩ ?_
  intro f hf
  simp only [pickI, Option.toList_some, List.cons_append, List.nil_append, List.getElem?_toArray, List.getElem?_cons_succ, List.getElem?_cons_zero]
  refine wpQ_load rfl _ (.tmp 8) rfl rfl (fun W hW => tabA.loads (by obtain ⟨z, rfl⟩ := hW; exact (hf z).2) HT.out) ?_
  go_frame
  refine wpQ_load rfl _ (.tmp 8) rfl rfl (fun W hW => tabA.loads (by obtain ⟨z, rfl⟩ := hW; exact (hf z).2) HT.out) ?_
  go_frame
  refine wpQ_load rfl _ (.tmp 3) rfl rfl (fun W hW => tabA.loads (by obtain ⟨z, rfl⟩ := hW; exact (hf z).1) HT.out) ?_
  go_frame
  refine tabA.wpQneq rfl (.tmp 24) (.tmp 25) _ rfl rfl rfl HT.out HT.out (b := false) (by simp) ?_
  go_frame
  refine wpQuiet_nil ?_
  clear hf f
  refine seg_op (by simp only [List.getElem?_toArray, List.getElem?_cons_succ, List.getElem?_cons_zero]; rfl) fun K hK => ?_
  rw [if_pos (by rfl)]
  refine tabA.opStore (.tmp 6) (.tmp 23) rfl rfl rfl (show w4.drew.heap[b6]? = _ from h46.out) rfl HT.out ?_
  intro W9 hr9 hg9 hz9
  have r93 := row_far (show w4.drew.heap[b3]? = _ from h43.out) hg9 (fun e => by have := Option.some.inj e; omega)
  have r98 := row_far (show w4.drew.heap[b8]? = _ from h48.out) hg9 (fun e => by have := Option.some.inj e; omega)
  refine hK.out _ _ (seg_keep ⟨r93, r98⟩ ?_)
  clear hK K r93 r98
  intro f hf
  simp only [pickI, Option.toList_some, List.cons_append, List.nil_append, List.getElem?_toArray, List.getElem?_cons_succ, List.getElem?_cons_zero]
  go_frame
  go_big_quiet_step (fail)
  refine wpQuiet_nil ?_
  clear hf f
  have hlow9 : Below w.heap.size w W9 := (hlow.drew).grown hg9 (Nat.le_trans hlow.size (Nat.le_refl _)) (fun k e => by cases e; have := hl3.size; have := E5.out; omega)
  have HR9 := Lib.hid hr9
  have HL9 := Lib.hid hlow9
  clear hr9 hlow9 hg9
  go_wp2
  refine bodyPost_ret (results_cell_tmp (fn := Tryz.f53) rfl _ b6 41 _ (0, 0) _ rfl HR9.out Tryz.underlying41 rfl (by rw [tabA.size]; simp [tcells_len, HT.out])) rfl ⟨rfl, HL9.out⟩

set_option maxHeartbeats 2000000 in
theorem add8_yes (T : List Cl) (c r : Nat) (w : World) (hT : Tok T) (hr : r < 18446744073709551616) (hb : at8 T c (fun p => !oldN p.1 r) = true) :
    Calls Tryz.prog 53 #[tbv T, .int .u64 (c : Int), .int .u64 (r : Int)] w fun e w' => e = .returned (.tuple #[tbv (T.set (c - 1) (withN (T.getD (c - 1) (0, 0)) r)), .bool (!decide (T.set (c - 1) (withN (T.getD (c - 1) (0, 0)) r) = T))]) ∧ Below w.heap.size w w' := by
  have hh := fun W g hc hg => asks_add T c r g W hT hc hg
  rw [hb] at hh
  have h8 : (1 ≤ c ∧ c ≤ 8) ∧ oldN (T.getD (c - 1) (0, 0)).1 r = false := by simpa [at8] using hb
  obtain ⟨h8, ho⟩ := h8
  have hi := hT.at_ h8
  have hok := hT.get (c - 1)
  obtain ⟨h1, h2⟩ := h8
  generalize T.getD (c - 1) (0, 0) = p at *
  have hw := fun W => with_any p r W hok hr ho
  have HW := Lib.hid hw
  obtain ⟨S, hS⟩ : ∃ S, S = T.set (c - 1) (withN p r) := ⟨_, rfl⟩
  have hput := fun (w : World) (g : Nat) (e : TypeId) (hr : w.heap[g]? = some (.cells (tcells T).toArray e (0, 0))) => put_cl (k := c - 1) hr (withN p r)
  rw [← hS] at hput ⊢
  have hSl : S.length = 8 := by rw [hS, List.length_set]; exact hT.1
  generalize withN p r = q at *
  have heq : (!decide (S = T)) = !decide (S = T) := rfl
  generalize hB : (!decide (S = T)) = B at heq ⊢
  obtain ⟨g0, g1⟩ := tcells_get T _ _ hi
  have G0 := Lib.hid g0
  have G1 := Lib.hid g1
  have HEQ := Lib.hid hB.symm
  have HT := Lib.hid hT.1
  have HH := Lib.hid hh
  have HPUT := Lib.hid hput
  have HS := Lib.hid hSl
  clear hh hT hb heq hB hi hw hput hS hSl g0 g1 hok ho hr
  unfold clv at HW
  go_enter Tryz.func53, Tryz.ntmps53
  go_wp2_with (first
    | (refine wpL_tbox rfl (.tmp 0) rfl rfl ?_; intro W0 b3 hN; obtain ⟨hb3, hr3, hl3, hz3⟩ := hN)
    | (refine tabA.wpNew (o := ⟨some 6, _, _, _, _, _⟩) rfl rfl ?_; intro W1 b6 hN; obtain ⟨hb6, hr6, hl6, hz6⟩ := hN
       have h3 := Lib.hid (row_below (row_old _ hr3.out) hl6)
       have h5 := Lib.hid (row_below (heap_alloc_new W0 _) hl6)
       have hu6 := unal hl6
       have e5 : W0.heap.size + 1 = b6 := by rw [hb6.out]; simp
       have E5 := Lib.hid e5; clear e5
       have lt3 : b3 < b6 := by have := E5.out; have := hz3.out; omega
       have lt5 : W0.heap.size < b6 := by have := E5.out; omega)
    | (refine tabA.wpLoad (o := ⟨some 9, _, _, _, _, _⟩) rfl (.tmp 3) rfl rfl h3.out HT.out ?_)
    | (refine tabA.wpNew (o := ⟨some 8, _, _, _, _, _⟩) rfl rfl ?_; intro W2 b8 hN; obtain ⟨hb8, hr8, hl8, hz8⟩ := hN
       have h3' := Lib.hid (row_below h3.out hl8)
       have h5' := Lib.hid (row_below h5.out hl8)
       have h6' := Lib.hid (row_below hr6.out hl8)
       have lt6 : b6 < b8 := by have := hb8.out; have := hz6.out; omega)
    | (refine tabA.wpStore rfl (.tmp 8) (.tmp 9) rfl rfl rfl hr8.out rfl HT.out ?_; intro W3 hr38 hg38 hz38
       have h33 := Lib.hid (row_far h3'.out hg38 (fun e => by have := Option.some.inj e; omega))
       have h35 := Lib.hid (row_far h5'.out hg38 (fun e => by have := Option.some.inj e; omega))
       have h36 := Lib.hid (row_far h6'.out hg38 (fun e => by have := Option.some.inj e; omega)))
    | (refine tabA.wpLoad (o := ⟨some 10, _, _, _, _, _⟩) rfl (.tmp 3) rfl rfl h33.out HT.out ?_)
    | (go_at_call 54; refine (HH.out _ _ (cell_of_row _ _ 0 _ _ _ h35.out) (by have := (Array.getElem?_eq_some_iff.1 h35.out).1; exact this)).mono ?_; rintro e w4 ⟨rfl, hb4⟩
       have h43 := Lib.hid (row_below h33.out hb4)
       have h45 := Lib.hid (row_below h35.out hb4)
       have h46 := Lib.hid (row_below h36.out hb4)
       have h48 := Lib.hid (row_below hr38.out hb4)
       have hlow : Below w.heap.size w w4 := (((hl3.trans (hu6.mono hl3.size)).trans (hl8.mono (Nat.le_trans hl3.size hu6.size))).grown hg38 (Nat.le_trans hl3.size (Nat.le_trans hu6.size hl8.size)) (fun k e => by cases e; have := hl3.size; omega)).trans (hb4.mono (by have := hl3.size; have := hu6.size; have := hl8.size; have := hz38.out; omega)))
    | fail)
  refine wp_low b8 [([0, 1, 2, 3, 4, 5, 6], 7), ([8], 9)] [] (by kernel_rfl) (by kernel_rfl) (fun d _ _ _ _ h => by cases d <;> exact h) (Nat.le_of_lt (Array.getElem?_eq_some_iff.1 h48.out).1) fun wd hbd => ?_
  have w3 := h43.out
  have w5 := h45.out
  have w6 := row_below h46.out hbd
  have w8 := row_below h48.out hbd
  intro f hf
  have d0 : ∀ z, (f z).cell? ⟨b3, (c - 1) * 2, none⟩ = some (.int .u64 (p.1 : Int)) := fun z => cellz (hf z) w3 (by simpa using G0.out)
  have d1 : ∀ z, (f z).cell? ⟨b3, (c - 1) * 2 + 1, none⟩ = some (.int .u16 (p.2 : Int)) := fun z => cellz (hf z) w3 (by simpa using G1.out)
  have d5 := fun z => cellz (j := 0) (hf z) w5 rfl
  have W3 := Lib.hid (row_below h43.out hbd)
  have W5 := Lib.hid w5
  have W6 := Lib.hid w6
  have W8 := Lib.hid w8
  clear w3 w5 w6 w8
  simp only [pickI, Option.toList_some, List.cons_append, List.nil_append, List.getElem?_toArray, List.getElem?_cons_succ, List.getElem?_cons_zero]
  repeat (go_big_quiet_step (fail))
  refine wpQuiet_nil ?_
  clear d0 d1 d5 hf f
  refine seg_op (by simp only [List.getElem?_toArray, List.getElem?_cons_succ, List.getElem?_cons_zero]; rfl) fun K hK => ?_
  go_simp
  refine (HW.out _).mono ?_
  rintro e w7 ⟨rfl, hb7⟩
  have v3 := Lib.hid (row_below W3.out hb7)
  have v6 := Lib.hid (row_below W6.out hb7)
  have v8 := Lib.hid (row_below W8.out hb7)
  have hle4 : b8 ≤ w4.heap.size := Nat.le_of_lt (Array.getElem?_eq_some_iff.1 h48.out).1
  have hlewd : b8 ≤ wd.heap.size := Nat.le_of_lt (Array.getElem?_eq_some_iff.1 W8.out).1
  refine hK.out _ _ (seg_keep ((hbd.mono hle4).trans (hb7.mono hlewd)) ?_)
  clear hK K
  intro f hf
  simp only [pickI, Option.toList_some, List.cons_append, List.nil_append, List.getElem?_toArray, List.getElem?_cons_succ, List.getElem?_cons_zero]
  repeat (go_big_quiet_step (fail))
  refine wpQuiet_nil ?_
  clear hf f
  have k0 : w7.cell? ⟨b8, (c - 1) * 2, none⟩ = some (.int .u64 (p.1 : Int)) := by rw [cell_of_row w7 b8 _ _ _ _ v8.out]; simpa using G0.out
  have k1 : w7.cell? ⟨b8, (c - 1) * 2 + 1, none⟩ = some (.int .u16 (p.2 : Int)) := by rw [cell_of_row w7 b8 _ _ _ _ v8.out]; simpa using G1.out
  have z0 := frozen_of_row w7 b8 ((c - 1) * 2) _ _ v8.out
  have z1 := frozen_of_row w7 b8 ((c - 1) * 2 + 1) _ _ v8.out
  refine seg_op (by simp only [List.getElem?_toArray, List.getElem?_cons_succ, List.getElem?_cons_zero]; rfl) fun K hK => ?_
  go_simp
  have r8 := Lib.hid (HPUT.out w7 b8 _ v8.out)
  have hg8 : w7.grownBy ((w7.setCell ⟨b8, (c - 1) * 2, none⟩ (.int .u64 (q.1 : Int))).setCell ⟨b8, (c - 1) * 2 + 1, none⟩ (.int .u16 (q.2 : Int))) (some b8) := setCell_by (w' := w7.setCell ⟨b8, (c - 1) * 2, none⟩ (.int .u64 (q.1 : Int))) (p := ⟨b8, (c - 1) * 2 + 1, none⟩) (setCell_by (w' := w7) (p := ⟨b8, (c - 1) * 2, none⟩) (World.grownBy.refl w7 (some b8)) rfl (.int .u64 (q.1 : Int))) rfl (.int .u16 (q.2 : Int))
  have r3 := Lib.hid (row_far v3.out hg8 (fun e => by have := Option.some.inj e; omega))
  have r6 := Lib.hid (row_far v6.out hg8 (fun e => by have := Option.some.inj e; omega))
  have hl7 : Below w.heap.size w w7 := (hlow.trans (hbd.mono hlow.size)).trans (hb7.mono (Nat.le_trans hlow.size hbd.size))
  have hl9 := hl7.grown hg8 hl7.size (fun k e => by cases e; have := hl3.size; have := E5.out; omega)
  have hbb : Below b8 w4 ((w7.setCell ⟨b8, (c - 1) * 2, none⟩ (.int .u64 (q.1 : Int))).setCell ⟨b8, (c - 1) * 2 + 1, none⟩ (.int .u16 (q.2 : Int))) := ((hbd.mono hle4).trans (hb7.mono hlewd)).grown hg8 (Nat.le_of_lt (Array.getElem?_eq_some_iff.1 v8.out).1) (fun k e => by cases e; exact Nat.le_refl _)
  refine hK.out _ _ (seg_keep hbb ?_)
  clear hK K hg8 k0 k1 z0 z1 hbb
  generalize (w7.setCell ⟨b8, (c - 1) * 2, none⟩ (.int .u64 (q.1 : Int))).setCell ⟨b8, (c - 1) * 2 + 1, none⟩ (.int .u16 (q.2 : Int)) = w9 at *
  intro f hf
  refine wpQuiet_nil ?_
  clear hf f
  go_wp2_with (fail)
  refine wp_segs [([0, 1, 2, 3], 4)] [5] (fun x => x.heap[b3]? = some (.cells (tcells T).toArray 41 (0, 0)) ∧ x.heap[b8]? = some (.cells (tcells S).toArray 41 (0, 0))) (by kernel_rfl) (by kernel_rfl) (fun d _ _ _ _ h => by cases d <;> exact h) ⟨r3.out, r8.out⟩ ?_
  intro f hf
  simp only [pickI, Option.toList_some, List.cons_append, List.nil_append, List.getElem?_toArray, List.getElem?_cons_succ, List.getElem?_cons_zero]
  refine wpQ_load rfl _ (.tmp 8) rfl rfl (fun W hW => tabA.loads (by obtain ⟨z, rfl⟩ := hW; exact (hf z).2) HS.out) ?_
  go_frame
  refine wpQ_load rfl _ (.tmp 8) rfl rfl (fun W hW => tabA.loads (by obtain ⟨z, rfl⟩ := hW; exact (hf z).2) HS.out) ?_
  go_frame
  refine wpQ_load rfl _ (.tmp 3) rfl rfl (fun W hW => tabA.loads (by obtain ⟨z, rfl⟩ := hW; exact (hf z).1) HT.out) ?_
  go_frame
  refine tabA.wpQneq rfl (.tmp 24) (.tmp 25) _ rfl rfl rfl HS.out HT.out (b := B) HEQ.out ?_
  go_frame
  refine wpQuiet_nil ?_
  clear hf f
  refine seg_op (by simp only [List.getElem?_toArray, List.getElem?_cons_succ, List.getElem?_cons_zero]; rfl) fun K hK => ?_
  rw [if_pos (by rfl)]
  refine tabA.opStore (.tmp 6) (.tmp 23) rfl rfl rfl (show w9.drew.heap[b6]? = _ from r6.out) rfl HS.out ?_
  intro W9 hr9 hg9 hz9
  have r93 := row_far (show w9.drew.heap[b3]? = _ from r3.out) hg9 (fun e => by have := Option.some.inj e; omega)
  have r98 := row_far (show w9.drew.heap[b8]? = _ from r8.out) hg9 (fun e => by have := Option.some.inj e; omega)
  refine hK.out _ _ (seg_keep ⟨r93, r98⟩ ?_)
  clear hK K r93 r98
  intro f hf
  simp only [pickI, Option.toList_some, List.cons_append, List.nil_append, List.getElem?_toArray, List.getElem?_cons_succ, List.getElem?_cons_zero]
  go_frame
  go_big_quiet_step (fail)
  refine wpQuiet_nil ?_
  clear hf f
  have hlow9 : Below w.heap.size w W9 := (hl9.drew).grown hg9 (Nat.le_trans hl9.size (Nat.le_refl _)) (fun k e => by cases e; have := hl3.size; have := E5.out; omega)
  have HR9 := Lib.hid hr9
  have HL9 := Lib.hid hlow9
  clear hr9 hlow9 hg9
  go_wp2
  refine bodyPost_ret (results_cell_tmp (fn := Tryz.f53) rfl _ b6 41 _ (0, 0) _ rfl HR9.out Tryz.underlying41 rfl (by rw [tabA.size]; simp [tcells_len, HS.out])) rfl ⟨rfl, HL9.out⟩

/-- Whatever is remembered, of whomever. -/
theorem add8_any (T : List Cl) (c r : Nat) (w : World) (hT : Tok T) (hr : r < 18446744073709551616) :
    Calls Tryz.prog 53 #[tbv T, .int .u64 (c : Int), .int .u64 (r : Int)] w fun e w' => e = .returned (.tuple #[tbv (addT T c r), .bool (!decide (addT T c r = T))]) ∧ Below w.heap.size w w' := by
  unfold addT
  cases hb : at8 T c (fun p => !oldN p.1 r)
  · refine (add8_no T c r w hT hb).mono ?_
    rintro e w' ⟨rfl, h⟩
    exact ⟨by simp, h⟩
  · simpa using add8_yes T c r w hT hr hb

end Go.Proofs.YtpalmobmabkadaaGreatDoor

namespace Go.Proofs.YtpalmobmabkadaaGreatDoor
open Go.RowKit
set_option maxRecDepth 20000

/-- Marks with a number more, where it has room. -/
def mset (L B n : Nat) : Nat × Nat := if n ≤ L then (L, B) else (L + tro (B ||| 2 ^ (n - L - 1)), (B ||| 2 ^ (n - L - 1)) >>> tro (B ||| 2 ^ (n - L - 1)))
/-- Has a number room? -/
def Room (L n : Nat) : Prop := n ≤ 4611686018427387840 ∧ n ≤ L + 64
instance (L n : Nat) : Decidable (Room L n) := inferInstanceAs (Decidable (_ ∧ _))
theorem mset_hs (L B n x : Nat) (hB : B < 18446744073709551616) (hr : Room L n) : Hs (mset L B n).1 (mset L B n).2 x = (Hs L B x || decide (x = n)) := by
  unfold mset
  by_cases h : n ≤ L
  · rw [if_pos h]
    by_cases hx : x = n
    · subst hx; rw [hs_low h]; simp
    · simp [hx]
  · rw [if_neg h]
    have hp := pow_lt (n - L - 1) (by have := hr.2; omega)
    rw [hs_settle _ _ _ (or_lt _ _ hB hp), hs_set L B n x (by omega)]
theorem mset_lt (L B n : Nat) (hB : B < 18446744073709551616) (hr : Room L n) : (mset L B n).2 < 18446744073709551616 := by
  unfold mset
  split
  · exact hB
  · exact shr_lt _ _ (or_lt _ _ hB (pow_lt _ (by have := hr.2; omega)))
theorem mset_gd (L B n : Nat) (hB : B < 18446744073709551616) (hr : Room L n) (hg : Gd L B) : Gd (mset L B n).1 (mset L B n).2 := by
  unfold mset
  by_cases h : n ≤ L
  · rw [if_pos h]; exact hg
  · rw [if_neg h]
    have hp := pow_lt (n - L - 1) (by have := hr.2; omega)
    refine gd_settle L _ (or_lt _ _ hB hp) fun x hx => ?_
    rw [hs_set L B n x (by omega)] at hx
    rw [Bool.or_eq_true] at hx
    rcases hx with h | h
    · exact gd_le hB hg h
    · have := of_decide_eq_true h; subst this; exact hr.1

set_option maxHeartbeats 1000000 in
theorem set_ok (L B n : Nat) (w : World) (hL : L ≤ 4611686018427387840) (hB : B < 18446744073709551616) (hT : Tab w) (hr : Room L n) :
    Calls Tryz.prog 50 #[.agg #[.int .u64 (L : Int), .int .u64 (B : Int)], .int .u64 (n : Int)] w fun e w' => e = .returned (.tuple #[.agg #[.int .u64 ((mset L B n).1 : Int), .int .u64 ((mset L B n).2 : Int)], .int .i64 0]) ∧ Below w.heap.size w w' := by
  obtain ⟨hn, hn2⟩ := hr
  have d1 : decide ((4611686018427387840 : Int) < (n : Int)) = false := by simp; omega
  by_cases h : n ≤ L
  · have hm : mset L B n = (L, B) := by unfold mset; rw [if_pos h]
    rw [hm]
    have d2 : decide (L < n) = false := by simp; omega
    have d3 : decide (n ≤ L) = true := by simp; omega
    clear hm hn hn2 hL hB
    go_enter Tryz.func50, Tryz.ntmps50
    go_wp2
    refine bodyPost_ret (v := .tuple #[.agg #[.int .u64 (L : Int), .int .u64 (B : Int)], .int .i64 0]) (by simp [results, Tryz.results50, go_sem]) rfl ⟨rfl, ?_⟩
    exact ((Below.refl _ _).alloc (Nat.le_refl _) _).alloc (by simp) _
  · have hm : mset L B n = (L + tro (B ||| 2 ^ (n - L - 1)), (B ||| 2 ^ (n - L - 1)) >>> tro (B ||| 2 ^ (n - L - 1))) := by unfold mset; rw [if_neg h]
    rw [hm]
    have d2 : decide (L < n) = true := by simp; omega
    have d3 : decide (n ≤ L) = false := by simp; omega
    have d4 : decide ((64 : Int) < (n : Int) - (L : Int)) = false := by simp; omega
    have hp := pow_lt (n - L - 1) (by omega)
    have e1 := shl_op (n - L - 1) ((n : Int) - (L : Int) - 1) (by omega) (by omega)
    have e2 := or_run B (2 ^ (n - L - 1)) hB hp
    have hs := fun W hW => settled_any L (B ||| 2 ^ (n - L - 1)) W hL (or_lt _ _ hB hp) hW
    have hLn : (L : Int) < (n : Int) := by omega
    have hn4 : n < 18446744073709551616 := by omega
    generalize B ||| 2 ^ (n - L - 1) = X at *
    generalize 2 ^ (n - L - 1) = Y at *
    generalize L + tro X = L' at *
    generalize X >>> tro X = X' at *
    clear hm h hn hn2 hL
    go_enter Tryz.func50, Tryz.ntmps50
    go_wp2_with fail
    refine (hs _ (hT.below (((Below.refl _ _).alloc (Nat.le_refl _) _).alloc (by simp) _))).mono ?_
    rintro e w1 ⟨rfl, hb1⟩
    obtain ⟨W, hW, hWs, r0, r1, hwW⟩ := boxes2 w #[.int .u64 (L : Int), .int .u64 (X : Int)] #[.int .u64 0, .int .u64 0] 36 36
    rw [← hW] at hb1
    have c0 := cellz (j := 0) (u := .int .u64 0) hb1 r1 rfl
    have c1 := cellz (j := 1) (u := .int .u64 0) hb1 r1 rfl
    have z0 := frozenz hb1 0 r1
    have z1 := frozenz hb1 1 r1
    go_wp2
    exact bodyPost_ret (v := .tuple #[.agg #[.int .u64 (L' : Int), .int .u64 (X' : Int)], .int .i64 0]) (by simp [results, Tryz.results50, go_sem, c0, c1]) rfl ⟨rfl, hwW.trans ((((show Below (w.heap.size + 1) W w1 from hb1.mono (by omega)).setCell (Nat.le_refl _) _).setCell (Nat.le_refl _) _).mono (by omega))⟩

set_option maxHeartbeats 1000000 in
theorem set_no (L B n : Nat) (w : World) (_ : L ≤ 4611686018427387840) (hn4 : n < 18446744073709551616) (hr : ¬ Room L n) :
    Calls Tryz.prog 50 #[.agg #[.int .u64 (L : Int), .int .u64 (B : Int)], .int .u64 (n : Int)] w fun e w' => e = .returned (.tuple #[.agg #[.int .u64 (L : Int), .int .u64 (B : Int)], .int .i64 30]) ∧ Below w.heap.size w w' := by
  by_cases hn : n ≤ 4611686018427387840
  · have h2 : ¬ n ≤ L + 64 := fun h => hr ⟨hn, h⟩
    have d1 : decide ((4611686018427387840 : Int) < (n : Int)) = false := by simp; omega
    have d2 : decide (L < n) = true := by simp; omega
    have d4 : decide ((64 : Int) < (n : Int) - (L : Int)) = true := by simp; omega
    have hLn : (L : Int) < (n : Int) := by omega
    clear hr hn h2
    go_enter Tryz.func50, Tryz.ntmps50
    go_wp2
    exact bodyPost_ret (v := .tuple #[.agg #[.int .u64 (L : Int), .int .u64 (B : Int)], .int .i64 30]) (by simp [results, Tryz.results50, go_sem]) rfl ⟨rfl, ((Below.refl _ _).alloc (Nat.le_refl _) _).alloc (by simp) _⟩
  · have d1 : decide ((4611686018427387840 : Int) < (n : Int)) = true := by simp; omega
    clear hr hn
    go_enter Tryz.func50, Tryz.ntmps50
    go_wp2
    exact bodyPost_ret (v := .tuple #[.agg #[.int .u64 (L : Int), .int .u64 (B : Int)], .int .i64 30]) (by simp [results, Tryz.results50, go_sem]) rfl ⟨rfl, ((Below.refl _ _).alloc (Nat.le_refl _) _).alloc (by simp) _⟩

end Go.Proofs.YtpalmobmabkadaaGreatDoor
