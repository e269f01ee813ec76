/- Places that are chosen: free, unlike; as many as a write wants are there. Blocks are written where none stands. -/
import Derived.Test.YtgbbbemedncdoaaGreatDoorSfwM
namespace Go.Proofs.YtgbbbemedncdoaaGreatDoor
open Go.RowKit
set_option maxRecDepth 20000

def cnt (a : Av) (i : Nat) : Nat := (List.range i).countP (bitAt a.ws)
theorem cnt_succ (a : Av) (i : Nat) : cnt a (i + 1) = cnt a i + if bitAt a.ws i then 1 else 0 := by
  unfold cnt
  rw [List.range_succ, List.countP_append]
  simp [List.countP_cons]
theorem cnt_more {a : Av} (h : ∀ j, a.n ≤ j → bitAt a.ws j = false) (d : Nat) : cnt a (a.n + d) = cnt a a.n := by
  induction d with
  | zero => rfl
  | succ d ih => rw [← Nat.add_assoc, cnt_succ, ih, h _ (by omega)]; rfl
theorem free_cnt {a : Av} {k : Nat} (h : a.Ok k) : a.free = cnt a a.n := by
  unfold Av.free
  rw [popAll_count]
  have := h.len
  have := h.room
  rw [show 64 * a.ws.length = a.n + (64 * a.ws.length - a.n) by omega]
  exact cnt_more h.out _
section
variable {a : Av} {k : Nat}
theorem flip_at (h : a.Ok k) {i : Nat} (hi : i < a.n) (j : Nat) : bitAt (a.flip i).ws j = if i = j then !bitAt a.ws j else bitAt a.ws j :=
  flip_bit _ _ _ (by have := h.len; have := h.room; omega)
theorem cnt_flip (h : a.Ok k) {i : Nat} (hi : i < a.n) (m : Nat) : cnt (a.flip i) m + (if i < m ∧ bitAt a.ws i = true then 1 else 0) = cnt a m + (if i < m ∧ bitAt a.ws i = false then 1 else 0) := by
  induction m with
  | zero => rfl
  | succ m ih =>
    rw [cnt_succ, cnt_succ, flip_at h hi m]
    by_cases hm : i = m
    · subst hm
      rw [if_neg (by omega), if_neg (by omega)] at ih
      cases hb : bitAt a.ws i <;> simp <;> omega
    · rw [if_neg hm]
      by_cases h1 : i < m
      · have h2 : i < m + 1 := by omega
        simp only [h1, h2, true_and] at ih ⊢
        omega
      · have h2 : ¬ i < m + 1 := by omega
        simp only [h1, h2, false_and, if_false, Nat.add_zero] at ih ⊢
        omega
theorem free_flip (h : a.Ok k) {i : Nat} (hi : i < a.n) : (a.flip i).free + (if bitAt a.ws i = true then 1 else 0) = a.free + (if bitAt a.ws i = false then 1 else 0) := by
  have := cnt_flip h hi a.n
  rw [free_cnt h, free_cnt (h.flip hi)]
  show cnt (a.flip i) a.n + _ = _
  simpa [hi] using this
theorem none_free (h : a.Ok k) (hf : a.first = none) : a.free = 0 := by
  rw [free_cnt h]
  have := first_is h
  rw [hf] at this
  have : ∀ n, cnt a n = 0 := by
    intro n
    induction n with
    | zero => rfl
    | succ n ih => rw [cnt_succ, ih, show bitAt a.ws n = false from this n]; rfl
  exact this a.n
end
/-- The first free place. -/
theorem Frees.take {a : Av} {k M : Nat} {T : Int → Prop} (h : Frees a M T) (ho : a.Ok k) (hf : 0 < a.free) : ∃ j : Nat, a.take = (((j : Int), 0), a.flip j) ∧ j < M ∧ ¬ T (j : Int) ∧ Frees (a.flip j) M (fun i => T i ∨ i = (j : Int)) ∧ (a.flip j).free + 1 = a.free := by
  cases hj : a.first with
  | none =>
    have := none_free ho hj
    omega
  | some j =>
    have h1 := first_is ho
    rw [hj] at h1
    have hlt := first_lt ho h1
    obtain ⟨hm, hT⟩ := (h.2 j).1 h1.1
    have h2 := free_flip ho hlt
    rw [h1.1] at h2
    simp at h2
    refine ⟨j, by unfold Av.take; rw [hj], hm, hT, ⟨h.1, fun i => ?_⟩, by omega⟩
    rw [flip_at ho hlt]
    by_cases hi : j = i
    · subst hi
      rw [if_pos rfl, h1.1]
      simp
    · rw [if_neg hi, h.2]
      have : ¬ ((i : Int) = (j : Int)) := by omega
      simp [this]
/-- Places that were chosen. -/
structure AtOk (at_ : List Int) (m M : Nat) (T : Int → Prop) : Prop where
  len : at_.length = m
  free : ∀ x ∈ at_, ∃ j : Nat, x = (j : Int) ∧ j < M ∧ ¬ T (j : Int)
  dis : at_.Nodup
theorem Frees.chosen {a : Av} {k M : Nat} {T : Int → Prop} (h : Frees a M T) (ho : a.Ok k) (m : Nat) (hf : m ≤ a.free) : AtOk (Av.some m a).1 m M T ∧ Frees (Av.some m a).2 M (fun i => T i ∨ i ∈ (Av.some m a).1) ∧ (Av.some m a).2.free + m = a.free := by
  induction m with
  | zero => exact ⟨⟨rfl, (fun x hx => by cases hx), List.nodup_nil⟩, h.eq fun j => ⟨.inl, fun hh => hh.elim id (fun e => by cases e)⟩, rfl⟩
  | succ m ih =>
    obtain ⟨h1, h2, h3⟩ := ih (by omega)
    obtain ⟨j, hj1, hj2, hj3, hj4, hj5⟩ := h2.take (Av.some_ok ho m) (by omega)
    have hs : Av.some (m + 1) a = ((Av.some m a).1 ++ [(j : Int)], (Av.some m a).2.flip j) := by rw [Av.some, hj1]
    rw [hs]
    refine ⟨⟨by rw [List.length_append, h1.len]; rfl, fun x hx => ?_, ?_⟩, hj4.eq fun i => ?_, by show ((Av.some m a).2.flip j).free + (m + 1) = _; omega⟩
    · rcases List.mem_append.1 hx with hx | hx
      · exact h1.free x hx
      · obtain rfl := List.mem_singleton.1 hx
        exact ⟨j, rfl, hj2, fun hT => hj3 (.inl hT)⟩
    · rw [List.nodup_append]
      refine ⟨h1.dis, by simp, fun x hx y hy e => ?_⟩
      obtain rfl := List.mem_singleton.1 hy
      subst e
      exact hj3 (.inr hx)
    · simp only [List.mem_append, List.mem_singleton]
      rw [or_assoc]
theorem cntP_succ (p : Nat → Bool) (M : Nat) : (List.range (M + 1)).countP p = (List.range M).countP p + if p M = true then 1 else 0 := by
  rw [List.range_succ, List.countP_append]
  simp [List.countP_cons]
def isIn (L : List Int) (j : Nat) : Bool := decide ((j : Int) ∈ L)
theorem isIn_iff (L : List Int) (j : Nat) : isIn L j = true ↔ (j : Int) ∈ L := by unfold isIn; exact decide_eq_true_iff
/-- So many names stand at so many places at most. -/
theorem cntL (L : List Int) (M : Nat) : (List.range M).countP (isIn L) ≤ L.length := by
  induction L with
  | nil =>
    rw [List.countP_eq_zero.2 (fun x _ hx => by rw [isIn_iff] at hx; cases hx)]
    exact Nat.zero_le _
  | cons x L ih =>
    have hpp : ∀ j : Nat, isIn (x :: L) j = true ↔ (j : Int) = x ∨ isIn L j = true := fun j => by rw [isIn_iff, isIn_iff, List.mem_cons]
    have key : ∀ M, (List.range M).countP (isIn (x :: L)) ≤ (List.range M).countP (isIn L) + if 0 ≤ x ∧ x < (M : Int) then 1 else 0 := by
      intro M
      induction M with
      | zero => simp
      | succ M ihM =>
        rw [cntP_succ, cntP_succ]
        have h1 := hpp M
        by_cases hx : (M : Int) = x
        · rw [if_neg (by omega)] at ihM
          rw [if_pos (show 0 ≤ x ∧ x < ((M + 1 : Nat) : Int) by omega)]
          have : (if isIn (x :: L) M = true then 1 else 0 : Nat) ≤ 1 := by split <;> omega
          omega
        · have e : (if 0 ≤ x ∧ x < ((M + 1 : Nat) : Int) then 1 else 0) = (if 0 ≤ x ∧ x < (M : Int) then 1 else 0 : Nat) := by
            by_cases h : 0 ≤ x ∧ x < (M : Int)
            · rw [if_pos h, if_pos (by omega)]
            · rw [if_neg h, if_neg (by omega)]
          rw [e]
          have e2 : (if isIn (x :: L) M = true then 1 else 0 : Nat) = if isIn L M = true then 1 else 0 := by
            by_cases h : isIn L M = true
            · rw [if_pos h, if_pos (h1.2 (.inr h))]
            · rw [if_neg h, if_neg (fun hc => (h1.1 hc).elim hx h)]
          rw [e2]
          omega
    have := key M
    rw [List.length_cons]
    have h1 : (if 0 ≤ x ∧ x < (M : Int) then 1 else 0 : Nat) ≤ 1 := by split <;> omega
    omega
/-- What a map tells of is of a block below n. -/
def Dom (f : SaysS) (n : Nat) : Prop := ∀ x s, f x = some s → 0 ≤ x ∧ x < (n : Int)
theorem names_len (f : SaysS) (n : Nat) : ((List.range n).filterMap fun i : Nat => f (i : Int)).length ≤ n := by
  have := List.length_filterMap_le (fun i : Nat => f (i : Int)) (List.range n)
  rwa [List.length_range] at this
theorem names_mem {f : SaysS} {n : Nat} (h : Dom f n) {j : Int} (hj : ∃ x, f x = some j) : j ∈ (List.range n).filterMap fun i : Nat => f (i : Int) := by
  obtain ⟨x, hx⟩ := hj
  obtain ⟨h0, h1⟩ := h x j hx
  rw [List.mem_filterMap]
  exact ⟨x.toNat, List.mem_range.2 (by omega), by rw [show ((x.toNat : Nat) : Int) = x by omega]; exact hx⟩
theorem Frees.room {a : Av} {k n : Nat} {fn fs : SaysS} (h : Frees a (2 * n + 8) (fun j => (∃ x, fn x = some j) ∨ ∃ x, fs x = some j)) (ho : a.Ok k) (hn : Dom fn n) (hs : Dom fs n) : 8 ≤ a.free := by
  obtain ⟨L, hL⟩ : ∃ L, L = ((List.range n).filterMap fun i : Nat => fn (i : Int)) ++ ((List.range n).filterMap fun i : Nat => fs (i : Int)) := ⟨_, rfl⟩
  have hLl : L.length ≤ 2 * n := by
    rw [hL, List.length_append]
    have l1 := names_len fn n
    have l2 := names_len fs n
    omega
  have hc := cntL L (2 * n + 8)
  have key : ∀ M, M ≤ 2 * n + 8 → M ≤ cnt a M + (List.range M).countP (isIn L) := by
    intro M hM
    induction M with
    | zero => exact Nat.zero_le _
    | succ M ih =>
      have := ih (by omega)
      rw [cnt_succ, cntP_succ]
      cases hb : bitAt a.ws M with
      | true => rw [if_pos rfl]; omega
      | false =>
        have hT : (∃ x, fn x = some (M : Int)) ∨ ∃ x, fs x = some (M : Int) := by
          apply Classical.byContradiction
          intro hc
          have := (h.2 M).2 ⟨by omega, hc⟩
          rw [hb] at this
          cases this
        have hm : isIn L M = true := by
          rw [isIn_iff, hL, List.mem_append]
          exact hT.imp (names_mem hn) (names_mem hs)
        rw [if_pos hm]
        omega
  have h1 := key (2 * n + 8) (Nat.le_refl _)
  rw [free_cnt ho, h.1]
  omega
end Go.Proofs.YtgbbbemedncdoaaGreatDoor

namespace Go.Proofs.YtgbbbemedncdoaaGreatDoor
open Go.RowKit
set_option maxRecDepth 20000

/-- Sectors are written one by one, until the power goes. -/
def Dv.wrs (d : Dv) (first : Int) (ats : List Int) (l : List UInt8) : Nat → Dv × Int
  | 0 => (d, 0)
  | k + 1 => if (d.wrs first ats l k).2 ≠ 0 then d.wrs first ats l k else (d.wrs first ats l k).1.write (first + ats.getD k 0) ((l.drop (8 * k)).take 8) 1
theorem Dv.wrs_n (d : Dv) (first : Int) (ats : List Int) (l : List UInt8) (k : Nat) : (d.wrs first ats l k).1.n = d.n := by
  induction k with
  | zero => rfl
  | succ k ih =>
    rw [Dv.wrs]
    split
    · exact ih
    · rw [Dv.write_n, ih]
theorem Dv.wrs_stays (d : Dv) (first : Int) (ats : List Int) (l : List UInt8) (k m : Nat) (hk : k ≤ m) (h : (d.wrs first ats l k).2 ≠ 0) : d.wrs first ats l m = d.wrs first ats l k := by
  induction m with
  | zero =>
    obtain rfl : k = 0 := by omega
    rfl
  | succ m ih =>
    rcases Nat.lt_or_ge m k with h1 | h1
    · obtain rfl : k = m + 1 := by omega
      rfl
    · rw [Dv.wrs, ih h1, if_pos h]
theorem Dv.write_up (d : Dv) (x : Int) (l : List UInt8) (h : (d.write x l 1).2 = 0) : (d.write x l 1).1.down = false := by
  unfold Dv.write Dv.write at h ⊢
  simp only [ne_eq, not_true_eq_false, if_false] at h ⊢
  unfold pw at h
  split at h
  · cases h
  · next h1 => simpa using h1
theorem Dv.wrs_up (d : Dv) (hd : d.down = false) (first : Int) (ats : List Int) (l : List UInt8) (k : Nat) (h : (d.wrs first ats l k).2 = 0) : (d.wrs first ats l k).1.down = false := by
  cases k with
  | zero => exact hd
  | succ k =>
    rw [Dv.wrs] at h ⊢
    split at h
    · next h1 => exact absurd h h1
    · next h1 =>
      rw [if_neg h1]
      exact Dv.write_up _ _ _ h
theorem Dv.wrs_pw (d : Dv) (first : Int) (ats : List Int) (l : List UInt8) (k : Nat) : (d.wrs first ats l k).2 = 0 ∨ (d.wrs first ats l k).2 = 50 := by
  induction k with
  | zero => exact .inl rfl
  | succ k ih =>
    rw [Dv.wrs]
    split
    · exact ih
    · exact Dv.write_pw _ _ _ _
/-- The blocks from x on stand elsewhere. -/
def upd (f : SaysS) (x : Int) (ats : List Int) (k : Nat) : SaysS := fun y => if x ≤ y ∧ y < x + (k : Int) then some (ats.getD (y - x).toNat 0) else f y
theorem upd_0 (f : SaysS) (x : Int) (ats : List Int) : upd f x ats 0 = f := by
  funext y
  unfold upd
  rw [if_neg (by omega)]
theorem upd_succ (f : SaysS) (x : Int) (ats : List Int) (k : Nat) : (fun y => if y = x + (k : Int) then some (ats.getD k 0) else upd f x ats k y) = upd f x ats (k + 1) := by
  funext y
  unfold upd
  by_cases h : y = x + (k : Int)
  · rw [if_pos h, if_pos (by omega)]
    rw [show (y - x).toNat = k by omega]
  · rw [if_neg h]
    by_cases h2 : x ≤ y ∧ y < x + (k : Int)
    · rw [if_pos h2, if_pos (by omega)]
    · rw [if_neg h2, if_neg (by omega)]
section
variable {w : World} {ops : Array Oper} {rest : List Oper} {o : Oper} {a : Act} {Q : Exit → Act → World → Prop}
/-- A block is read where it lies among others. -/
theorem wpL_blk (hgd : o.guard = none) (x : Operand) (ho : o.op = .load 116 x) {R i m c B : Nat} {l : List UInt8} (hx : a.eval x = .pointer (some ⟨R, i * 8, none⟩)) (hr : Rd w B 8 (some ⟨R, 0, none⟩) m c (u8s l)) (hi : i < m)
    (h : wpList Tryz.prog ops Q rest (a.put o.dst (blkv ((l.drop (8 * i)).take 8))) w) : wpList Tryz.prog ops Q (o :: rest) a w := by
  have hl : l.length = m * 8 := by have := hr.2.2.1; rwa [u8s_len] at this
  refine wpList_load_mid hgd _ x ho R (i * 8) hx (u8s ((l.drop (8 * i)).take 8)) _ ?_ Tryz.underlying116 rfl ?_ h
  · intro j u hu
    obtain ⟨b, o', hb, _, hc⟩ := hr.2.2.2 (by omega)
    cases hb
    rw [u8s_take, u8s_drop, List.getElem?_take] at hu
    split at hu
    · rw [List.getElem?_drop] at hu
      have := hc (8 * i + j) u hu
      rwa [Nat.zero_add, Nat.mul_comm 8 i] at this
    · cases hu
  · rw [size_blk, u8s_len, List.length_take, List.length_drop]
    congr 1
    omega
end
theorem is_at {q c m B i : Nat} {w : World} {ats : List Int} (h : Rd w B 1 (some ⟨q, 0, none⟩) m c (is ats)) (hi : i < m) : w.cell? ⟨q, i, none⟩ = some (.int .i64 (ats.getD i 0)) := by
  have hl := h.len
  rw [is_len] at hl
  obtain ⟨b, o, u, hb, _, hu, hc⟩ := h.at_ hi
  cases hb
  have hu2 : (is ats)[i]? = some (.int .i64 (ats.getD i 0)) := by
    rw [List.getD]
    have : i < ats.length := by omega
    simp [is, this]
  rw [hu2] at hu
  obtain rfl := Option.some.inj hu
  rwa [Nat.zero_add] at hc
theorem AtOk.at_ {ats : List Int} {m M i : Nat} {T : Int → Prop} (h : AtOk ats m M T) (hi : i < m) : ∃ j : Nat, ats.getD i 0 = (j : Int) ∧ j < M ∧ ¬ T (j : Int) := by
  have hl := h.len
  have hi' : i < ats.length := by omega
  have : ats.getD i 0 = ats[i] := by rw [List.getD]; simp [hi']
  rw [this]
  exact h.free _ (List.getElem_mem hi')
theorem Slx.wide {X : Nat → Prop} {w W : World} {B g T S bn bs M kn ks M' kn' : Nat} {d : Dv} {t : Tv} {v : Sv} {fn fs : SaysS} (h : Slx X w W B g T S bn bs M kn ks d t v fn fs) (hM : M ≤ M') (hk : kn ≤ kn') : Slx X w W B g T S bn bs M' kn' ks d t v fn fs := ⟨h.tlx.le hM, h.row, h.now.mono hk, h.saved, h.new, h.apart⟩
/-- What a write leaves. -/
def Written (X : Nat → Prop) (w W : World) (B g T S bn bs M kn ks : Nat) (d : Dv) (t : Tv) (v : Sv) (fn fs : SaysS) (x : Nat) (l : List UInt8) (m : Nat) (e : Ending) (w' : World) : Prop :=
  ∃ ats, AtOk ats m (2 * v.n + 8) (fun j => (∃ x, fn x = some j) ∨ ∃ x, fs x = some j) ∧ e = .returned (.int .i64 (d.wrs v.first ats l m).2) ∧ Slx X w w' B g T S bn bs (M + 64 * m) (kn + m) ks (d.wrs v.first ats l m).1 t v (if (d.wrs v.first ats l m).2 = 0 then upd fn x ats m else fn) fs ∧ Keeps (Off X w) W w'
set_option maxHeartbeats 4000000 in
theorem swrite_any {X : Nat → Prop} {w W : World} {B g T S bn bs M kn ks : Nat} {d : Dv} {t : Tv} {v : Sv} {fn fs : SaysS} (h : Slx X w W B g T S bn bs M kn ks d t v fn fs) (hT : Tab W) (hd : d.down = false) (hM : M ≤ 90000) (hkn : kn ≤ 100000) (h64 : v.n ≤ 64) (hpn : Pl fn (2 * v.n + 8)) (hps : Pl fs (2 * v.n + 8)) (hdn : Dom fn v.n) (hds : Dom fs v.n)
    (hf0 : 0 ≤ v.first) (hf1 : v.first + (2 * v.n + 8 : Nat) ≤ d.n) (Lb c m : Nat) (l : List UInt8) (hl : Rd W W.heap.size 8 (some ⟨Lb, 0, none⟩) m c (u8s l)) (hLX : X Lb ∨ Lb < w.heap.size) (hm1 : 1 ≤ m) (hm8 : m ≤ 8) (x : Nat) (hx : x + m ≤ v.n) :
    Calls Tryz.prog 51 #[.pointer (some ⟨S, 0, none⟩), .int .u32 (x : Int), .slice (some ⟨Lb, 0, none⟩) m c] W (Written X w W B g T S bn bs M kn ks d t v fn fs x l m) := by
  have h0 : 0 < W.heap.size := hT.1
  have HF := Lib.hid (sfree_any h.row h.now h.saved h64 hpn hps h0)
  have HH := Lib.hid h
  have HT := Lib.hid hT
  have HRD := Lib.hid hl
  have HDD := Lib.hid (And.intro hdn hds)
  have HM := Lib.hid hM
  have HKN := Lib.hid hkn
  have HFR := Lib.hid (And.intro hf0 hf1)
  have HXN := Lib.hid hx
  have H64 := Lib.hid h64
  have HLX := Lib.hid hLX
  have HD := Lib.hid hd
  have HMM := Lib.hid (And.intro hm1 hm8)
  have hm3 : (m : Int) ≤ 8 := by omega
  unfold Freed at HF
  unfold Written
  clear h hT hl hdn hds hM hkn hf0 hf1 hx hLX hd h0 hpn hps h64
  go_enter Tryz.func51, Tryz.ntmps51
  go_wp2_with (first
    | (go_at_call 90; refine HF.out.mono ?_; clear HF; rintro e w1 ⟨ga, R, k, a, rfl, hA, hFr, hb1, hga, hR⟩
       have hroom := hFr.room hA.ok HDD.out.1 HDD.out.2
       have hcho := hFr.chosen hA.ok m (by omega)
       have hSm := asome_any hA (HT.out.below hb1) (m : Int) (by omega) (by omega)
       unfold Somed at hSm
       rw [show a.someE (m : Int) = 0 by unfold Av.someE; rw [if_neg (by omega), if_neg (by omega)], show a.someN (m : Int) = m by unfold Av.someN; rw [if_neg (by omega), if_neg (by omega), Int.toNat_natCast]] at hSm
       have HSm := Lib.hid hSm
       have HCH := Lib.hid hcho.1
       have HB1 := Lib.hid hb1
       have HRR := Lib.hid hR
       clear hA hFr hb1 hga hR hroom hcho hSm)
    | (go_at_call 91; refine HSm.out.mono ?_; clear HSm; rintro e w2 ⟨v2, rfl, ho2, hA2, hg2⟩
       have HO2 := Lib.hid ho2
       have HB2 := Lib.hid (HB1.out.grown hg2 HB1.out.size (fun k e => by cases e; exact HRR.out))
       have HG2 := Lib.hid (show w1.heap.size ≤ w2.heap.size from hg2.size)
       clear ho2 hA2 hg2)
    | fail)
  obtain ⟨A2, c2, rfl⟩ := ownsRow_form HO2.out
  obtain ⟨q, hq⟩ : ∃ q, A2 = some ⟨q, 0, none⟩ := by
    rcases HO2.out.2 with ⟨hv, hz⟩ | ⟨g', cap', cur, hv, _⟩
    · have := HMM.out.1
      omega
    · cases hv
      exact ⟨_, rfl⟩
  subst hq
  have hql := HO2.out.lt q rfl
  have HQ := Lib.hid (show W.heap.size ≤ q ∧ q < w2.heap.size from ⟨Nat.le_trans HB1.out.size hql.1, hql.2⟩)
  have HAT := Lib.hid (ownsRow_rd HO2.out)
  have HL2 := Lib.hid ((HRD.out.below HB2.out).more HB2.out.size)
  obtain ⟨ats, hats⟩ : ∃ ats, ats = (Av.some m a).1 := ⟨_, rfl⟩
  rw [← hats] at HAT HCH
  have HX2 := Lib.hid (HH.out.more (X' := fun i => X i ∨ i = q) HB2.out (fun i hi => by
    rcases hi with hi | rfl
    · exact ⟨.inl hi, Nat.lt_of_lt_of_le (HH.out.xlt i hi) HB2.out.size⟩
    · exact ⟨.inr HQ.out.1, HQ.out.2⟩))
  clear HO2 hql hats HRD HB1 HG2 HRR
  go_loopw [26] (fun ir wr => ∃ i, i ≤ m ∧ ir = .int .i64 ((i : Nat) : Int) ∧ Hid ((d.wrs v.first ats l i).2 = 0) ∧ Hid (Slx (fun i => X i ∨ i = q) w wr B g T S bn bs (M + 64 * i) kn ks (d.wrs v.first ats l i).1 t v fn fs) ∧ Hid (Keeps (Off (fun i => X i ∨ i = q) w) w2 wr)) (fun ir _ => m - (intOf ir).toNat)
  case atStart => exact ⟨0, Nat.zero_le _, rfl, Lib.hid rfl, HX2, Lib.hid (Keeps.refl _ _)⟩
  case round =>
    clear HX2
    obtain ⟨i, hi, rfl, HE, HS, HK⟩ := hrel
    by_cases hlt : i < m
    · have HLr := Lib.hid (off_rd HK.out HL2.out (fun _ b o e => by cases e; exact HLX.out.imp .inl id))
      have HAr := Lib.hid (off_rd HK.out HAT.out (fun _ b o e => by cases e; exact .inl (.inr rfl)))
      have hllen : l.length = 8 * m := by have := HL2.out.2.2.1; rw [u8s_len] at this; omega
      have HLL := Lib.hid hllen
      clear hllen
      have hi3 : (i : Int) ≤ 8 := by omega
      go_wp2_with (first
        | (go_loud (refine wpL_blk rfl (.tmp 29) rfl rfl HLr.out hlt ?_))
        | (refine wpL_bnew rfl rfl ?_; intro W1 b1 hN; obtain ⟨hb1e, hr1, hl1, hz1⟩ := hN)
        | (refine wpL_bstore rfl (.tmp 10) (.tmp 30) rfl rfl rfl hr1.out zb_len (by rw [List.length_take, List.length_drop, HLL.out]; omega) ?_; intro W2 hr2 hg2 hz2)
        | fail)
      have hbW : Below wr.heap.size wr W2 := hl1.grown hg2 hl1.size (fun k e => by have := Option.some.inj e; have := hb1e.out; omega)
      have HBW := Lib.hid hbW
      have HB1 := Lib.hid (show wr.heap.size ≤ b1 by have := hb1e.out; omega)
      have HR2 := Lib.hid hr2.out
      have k0 := (HS.out.below hbW).row.c0
      have k2 := (HS.out.below hbW).row.c2
      have kA := is_at (HAr.out.below hbW) hlt
      obtain ⟨j, hj, hjM, _⟩ := HCH.out.at_ hlt
      have HJ := Lib.hid hj
      rw [hj] at kA
      have hdn := HS.out.tlx.ok.n
      rw [Dv.wrs_n] at hdn
      have hF := HFR.out
      have h64 := H64.out
      have f1 : v.first ≤ 65536 := by omega
      have f2 : (j : Int) ≤ 136 := by omega
      have f3 : 0 ≤ v.first := hF.1
      have f4 : -65536 ≤ v.first := by omega
      have HW := Lib.hid (slx_dwrite HS.out (by have := HM.out; omega) (Dv.wrs_up d HD.out v.first ats l i HE.out) hbW.drew (v.first + (j : Int)) b1 HB1.out ((l.drop (8 * i)).take 8) ⟨Nat.le_refl _, by unfold maxLen; omega, by rw [u8s_len, List.length_take, List.length_drop, HLL.out]; omega, fun _ => ⟨b1, 0, rfl, (show b1 < W2.heap.size from (Array.getElem?_eq_some_iff.1 HR2.out).1), fun z u hu => by rw [cell_of_row W2.drew b1 (0 + z) _ _ _ HR2.out]; simpa using hu⟩⟩ (by omega) (by rw [Dv.wrs_n]; omega))
      have hnext : d.wrs v.first ats l (i + 1) = (d.wrs v.first ats l i).1.write (v.first + (j : Int)) ((l.drop (8 * i)).take 8) 1 := by rw [Dv.wrs, if_neg (by rw [HE.out]; simp), HJ.out]
      rw [← hnext] at HW
      clear hb1e hr1 hl1 hz1 hg2 hz2 hr2 hbW hj hjM hdn hF h64 hnext HLr HAr
      go_frame
      refine wp_segs [([0, 1, 2, 3, 4, 5, 6, 7, 8, 9, 10, 11, 12, 13], 14)] [15] (fun z => z.cell? ⟨S, 0, none⟩ = some (.pointer (some ⟨g, 0, none⟩)) ∧ z.cell? ⟨S, 2, none⟩ = some (.int .i64 v.first) ∧ z.cell? ⟨q, i, none⟩ = some (.int .i64 (j : Int))) (by kernel_rfl) (by kernel_rfl) (fun d _ _ _ _ h => by cases d <;> exact h) ⟨k0, k2, kA⟩ ?_
      intro f hf
      have F1 := fun z => (hf z).1
      have F2 := fun z => (hf z).2.1
      have F3 := fun z => (hf z).2.2
      simp only [pickI, Option.toList_some, List.cons_append, List.nil_append, List.getElem?_toArray, List.getElem?_cons_succ, List.getElem?_cons_zero]
      repeat (go_big_quiet_step (fail))
      refine wpQuiet_nil ?_
      clear F1 F2 F3 hf f
      refine seg_op (by simp only [List.getElem?_toArray, List.getElem?_cons_succ, List.getElem?_cons_zero]; rfl) fun K hK => ?_
      go_simp
      refine HW.out.mono ?_
      rintro e w3 ⟨rfl, hS3, hK3⟩
      have kA3 : w3.cell? ⟨q, i, none⟩ = some (.int .i64 (j : Int)) := hK3.cell (w := W2.drew) kA (fun hF => hF.1.2 (.inr rfl))
      have HS3 := Lib.hid (hS3.wide (M' := M + 64 * (i + 1)) (kn' := kn) (by omega) (Nat.le_refl _))
      have HK3 : Hid (Keeps (Off (fun i => X i ∨ i = q) w) w2 w3) := by
        have h1 : Keeps (Off (fun i => X i ∨ i = q) w) wr W2.drew := (Keeps.of_below HBW.out.drew)
        exact Lib.hid ((HK.out.trans h1 (fun i hi => .inl hi)).trans hK3 (fun i hi => .inl hi.1))
      have z0 := hS3.row.c0
      have z2 := hS3.row.c2
      refine hK.out _ _ (seg_keep ⟨z0, z2, kA3⟩ ?_)
      clear hK K hS3 hK3 kA3 z0 z2 HW k0 k2 kA
      rcases Dv.wrs_pw d v.first ats l (i + 1) with he | he
      · have HE3 := Lib.hid he
        rw [he]
        clear he
        intro f hf
        simp only [pickI, Option.toList_some, List.cons_append, List.nil_append, List.getElem?_toArray, List.getElem?_cons_succ, List.getElem?_cons_zero]
        repeat (go_big_quiet_step (fail))
        refine wpQuiet_nil ?_
        clear hf f
        go_wp2_with (fail)
        go_roundw
        case rel => exact ⟨i + 1, by omega, rfl, HE3, HS3, HK3⟩
        case measure => simp [intOf]; omega
      · have hst := Dv.wrs_stays d v.first ats l (i + 1) m (by omega) (by rw [he]; decide)
        have HST := Lib.hid hst
        have HE3 := Lib.hid he
        rw [he]
        clear he hst
        intro f hf
        simp only [pickI, Option.toList_some, List.cons_append, List.nil_append, List.getElem?_toArray, List.getElem?_cons_succ, List.getElem?_cons_zero]
        repeat (go_big_quiet_step (fail))
        refine wpQuiet_nil ?_
        clear hf f
        go_wp2_with (fail)
        go_ret
        refine ⟨ats, HCH.out, (by rw [HST.out, HE3.out]; rfl), ?_, ?_⟩
        · rw [HST.out, HE3.out, if_neg (by decide)]
          exact (HS3.out.wide (by omega) (by omega)).less (fun i hi => .inl hi)
        · exact (Keeps.of_below HB2.out).trans (HK3.out.wide (fun i hi => Off.less (fun i hi => .inl hi) hi)) (fun i hi => .inl hi)
    · obtain rfl : i = m := by omega
      have h1q : W.heap.size ≤ q := HQ.out.1
      have HAr := Lib.hid (off_rd HK.out HAT.out (fun _ b o e => by cases e; exact .inl (.inr rfl)))
      go_wp2_with (fail)
      obtain ⟨dm, hdm⟩ : ∃ dm, dm = (d.wrs v.first ats l i).1 := ⟨_, rfl⟩
      rw [← hdm] at HS
      have HDM := Lib.hid hdm
      clear hdm
      have hx64 : (x : Int) ≤ 64 := by have := HXN.out; have := H64.out; omega
      go_loopw [52] (fun ir wq => ∃ k, k ≤ i ∧ ir = .int .i64 ((k : Nat) : Int) ∧ Hid (Slx (fun z => X z ∨ z = q) w wq B g T S bn bs (M + 64 * i) (kn + k) ks dm t v (upd fn x ats k) fs) ∧ Hid (Keeps (Off (fun z => X z ∨ z = q) w) w2 wq)) (fun ir _ => i - (intOf ir).toNat)
      case atStart => exact ⟨0, Nat.zero_le _, rfl, Lib.hid (by rw [upd_0]; exact HS.out), HK⟩
      case round =>
        clear HS HK HAr
        obtain ⟨k, hk, rfl, HS, HK⟩ := hrel
        by_cases hlt2 : k < i
        · have HAr := Lib.hid (off_rd HK.out HAT.out (fun _ b o e => by cases e; exact .inl (.inr rfl)))
          obtain ⟨j, hj, hjM, _⟩ := HCH.out.at_ hlt2
          have kA := is_at HAr.out hlt2
          rw [hj] at kA
          have k22 := HS.out.row.c22
          have hk3 : (k : Int) ≤ 8 := by omega
          have hj3 : (j : Int) ≤ 136 := by have := H64.out; omega
          obtain ⟨w', hput, hm', hg', hz'⟩ := MapS.put (w := wr.drew) Tryz.underlying23 Tryz.underlying70 (HS.out.now.same rfl) (by have := HKN.out; unfold maxLen; omega) ((x : Int) + (k : Int)) ⟨by omega, by omega⟩ (j : Int) ⟨by omega, by omega⟩
          have HP := Lib.hid hput
          have hfn : (fun y => if y = (x : Int) + (k : Int) then some (j : Int) else upd fn x ats k y) = upd fn x ats (k + 1) := by rw [← hj]; exact upd_succ fn x ats k
          rw [hfn] at hm'
          have hg2 : wr.grownBy w' (some bn) := ⟨hg'.os, hg'.tape, hg'.output, hg'.size, hg'.block⟩
          have hS2 := HS.out.setNow hg2 hm'
          have HS2 := Lib.hid hS2
          have HK2 : Hid (Keeps (Off (fun z => X z ∨ z = q) w) w2 w') := Lib.hid (HK.out.grown hg2 (fun z e => .inl (by
            have := Option.some.inj e
            subst this
            refine ⟨HS.out.new.2.1, fun hx => ?_⟩
            exact HS.out.apart.2.2.2.2.1 hx)))
          have kA2 : w'.cell? ⟨q, k, none⟩ = some (.int .i64 (j : Int)) := is_at (off_rd HK2.out HAT.out (fun _ b o e => by cases e; exact .inl (.inr rfl))) hlt2 |>.trans (by rw [hj])
          have k22' := hS2.row.c22
          clear hput hm' hg' hz' hg2 hS2 hfn hj hjM
          go_wp2_with (fail)
          refine wp_segs [([0, 1, 2, 3, 4, 5, 6, 7, 8, 9, 10, 11], 12)] [] (fun z => z.cell? ⟨S, 22, none⟩ = some (.map (some bn)) ∧ z.cell? ⟨q, k, none⟩ = some (.int .i64 (j : Int))) (by kernel_rfl) (by kernel_rfl) (fun d _ _ _ _ h => by cases d <;> exact h) ⟨k22, kA⟩ ?_
          intro f hf
          have F1 := fun z => (hf z).1
          have F2 := fun z => (hf z).2
          simp only [pickI, Option.toList_some, List.cons_append, List.nil_append, List.getElem?_toArray, List.getElem?_cons_succ, List.getElem?_cons_zero]
          repeat (go_big_quiet_step (fail))
          refine wpQuiet_nil ?_
          clear F1 F2 hf f
          refine seg_op (by simp only [List.getElem?_toArray, List.getElem?_cons_succ, List.getElem?_cons_zero]; rfl) fun K hK => ?_
          rw [if_pos (by rfl)]
          refine wp_update _ _ _ _ rfl rfl rfl rfl HP.out ?_
          refine hK.out _ _ (seg_keep ⟨k22', kA2⟩ ?_)
          clear hK K
          intro f hf
          refine wpQuiet_nil ?_
          clear hf f
          go_wp2_with (fail)
          go_roundw
          case rel => exact ⟨k + 1, by omega, rfl, HS2, HK2⟩
          case measure => simp [intOf]; omega
        · obtain rfl : k = i := by omega
          go_wp2_with (fail)
          go_ret
          refine ⟨ats, HCH.out, (by rw [HE.out]; rfl), ?_, ?_⟩
          · rw [HE.out, if_pos rfl, ← HDM.out]
            exact HS.out.less (fun i hi => .inl hi)
          · exact (Keeps.of_below HB2.out).trans (HK.out.wide (fun i hi => Off.less (fun i hi => .inl hi) hi)) (fun i hi => .inl hi)
end Go.Proofs.YtgbbbemedncdoaaGreatDoor
