/- A table is read. What is written is read. Contracts of math/bits: the table in its variable, TrailingZeros64, Len64. -/
import Derived.Test.YtgbbbemedncdoaaGreatDoorSecZM
import Derived.Test.YtgbbbemedncdoaaGreatDoorTbytesM
import Derived.Test.YtgbbbemedncdoaaGreatDoorRefbZM
import Derived.Test.YtgbbbemedncdoaaGreatDoorFzeroZM
import Derived.Lib.TrailingZeros
import Derived.Lib.BitFns
import Derived.Lib.ItoaNum
import Derived.Laws.Bits64b
import Derived.Lib.Walk
import Derived.Lib.Small
namespace Go.Proofs.YtgbbbemedncdoaaGreatDoor
open Go.RowKit
set_option maxRecDepth 20000

def rd1 (s : St) : Cl × St := (((s.num 8).1, ((s.num 8).2.num 2).1 % 65536), ((s.num 8).2.num 2).2)
def rdN : Nat → St → List Cl × St
  | 0, s => ([], s)
  | k + 1, s => ((rdN k s).1 ++ [(rd1 (rdN k s).2).1], (rd1 (rdN k s).2).2)
theorem rdN_len (k : Nat) (s : St) : (rdN k s).1.length = k := by
  induction k with
  | zero => rfl
  | succ k ih => simp [rdN, ih]
def rdT (s : St) : List Cl := if (rdN 8 s).2.bad then T0 else (rdN 8 s).1
theorem rdT_len (s : St) : (rdT s).length = 8 := by unfold rdT; split; rfl; exact rdN_len 8 s
theorem num_lt (s : St) (W : Int) (h : W ≤ 8) : (s.num W).1 < 18446744073709551616 := by
  unfold St.num
  split
  · have hl := St.next_len s W
    exact unle_le8 _ (by rcases hl with h | h; omega; rw [h]; exact Nat.zero_le _)
  · exact (by decide)
theorem rdN_ok (k : Nat) (s : St) : ∀ p ∈ (rdN k s).1, Cl.ok p := by
  induction k with
  | zero => intro p h; cases h
  | succ k ih =>
    intro p h
    simp only [rdN, List.mem_append, List.mem_singleton] at h
    rcases h with h | rfl
    · exact ih p h
    · exact ⟨num_lt _ 8 (by decide), Nat.mod_lt _ (by decide)⟩
theorem t0_ok : Tok T0 := ⟨rfl, fun p hp => by have := List.eq_of_mem_replicate hp; subst this; exact ⟨by decide, by decide⟩⟩
theorem rdT_ok (s : St) : Tok (rdT s) := by
  unfold rdT
  split
  · exact t0_ok
  · exact ⟨rdN_len 8 s, rdN_ok 8 s⟩
theorem put_next (L : List Cl) (i : Nat) (q : Cl) (hL : L.length = i) (hi : i < 8) : (L ++ T0.drop i).set i q = (L ++ [q]) ++ T0.drop (i + 1) := by
  subst hL
  rw [List.set_append_right _ _ (Nat.le_refl _), Nat.sub_self]
  have e : T0.drop L.length = (0, 0) :: T0.drop (L.length + 1) := by
    rw [List.drop_eq_getElem_cons (by unfold T0; rw [List.length_replicate]; exact hi)]
    congr 1
    unfold T0
    rw [List.getElem_replicate]
  rw [e, List.set_cons_zero, List.append_assoc]
  rfl
theorem next0 (L : List Cl) (i : Nat) (hL : L.length = i) (hi : i < 8) : (L ++ T0.drop i)[i]? = some (0, 0) := by
  subst hL
  rw [List.getElem?_append_right (Nat.le_refl _), Nat.sub_self, List.getElem?_drop]
  unfold T0
  rw [List.getElem?_replicate, if_pos (by omega)]

theorem only_setCell {a w : World} {g : Nat} (h : a.grownBy w (some g)) {p : Addr} (hp : p.block = g ∨ a.heap.size ≤ p.block) (u : Value) : a.grownBy (w.setCell p u) (some g) :=
  ⟨h.os, h.tape, h.output, by simpa [World.setCell] using h.size, fun i hi hne => (Below.heap_setCell w p u i (by
    rintro rfl
    rcases hp with hp | hp
    · exact hne (by rw [hp])
    · omega)).trans (h.block i hi hne)⟩
theorem only_of_below {a w : World} (h : Below a.heap.size a w) (row : Option Nat) : a.grownBy w row := ⟨h.os, h.tape, h.output, h.size, fun i hi _ => h.block i hi⟩
theorem only_trans {a b c : World} {g : Nat} (h : a.grownBy b (some g)) (k : b.grownBy c (some g)) : a.grownBy c (some g) := grownBy_trans h k (.inl rfl)
theorem only_new {a b c : World} {g q : Nat} (h : a.grownBy b (some g)) (k : b.grownBy c (some q)) (hq : a.heap.size ≤ q) : a.grownBy c (some g) := grownBy_trans h k (.inr fun x e => by cases e; exact hq)

set_option maxRecDepth 20000 in
set_option maxHeartbeats 2000000 in
theorem tread_any (g : Nat) (s : St) (w : World) (h : Rdr w g s) :
    Calls Tryz.prog 75 #[.pointer (some ⟨g, 0, none⟩)] w fun e w' => e = .returned (tbv (rdT s)) ∧ Rdr w' g (rdN 8 s).2 ∧ w.grownBy w' (some g) := by
  have HR := Lib.hid h
  have hg := h.lt
  clear h
  go_enter Tryz.func75, Tryz.ntmps75
  go_wp2_with (first
    | (refine tabA.wpNew (o := ⟨some 2, _, _, _, _, _⟩) rfl rfl ?_; intro W1 b2 hN; obtain ⟨hb2, hr2, hl2, hz2⟩ := hN)
    | (refine tabA.wpNew (o := ⟨some 3, _, _, _, _, _⟩) rfl rfl ?_; intro W2 b3 hN; obtain ⟨hb3, hr3, hl3, hz3⟩ := hN
       have h23 := Lib.hid (row_below hr2.out hl3)
       have lt3 : b2 < b3 := by have := hb3.out; have := hz2.out; omega)
    | fail)
  have hlow : Below w.heap.size w W2 := hl2.trans (hl3.mono hl2.size)
  have hle2 : w.heap.size ≤ b2 := Nat.le_of_eq hb2.out.symm
  have hR2 := HR.out.kept (only_of_below hlow none) (by simp)
  go_loopw [5] (fun ir wr => ∃ i : Nat, i ≤ 8 ∧ ir = .int .i64 (i : Int) ∧ Hid (Rdr wr g (rdN i s).2) ∧ Hid (wr.heap[b2]? = some (.cells (tcells T0).toArray 41 (0, 0))) ∧ Hid (wr.heap[b3]? = some (.cells (tcells ((rdN i s).1 ++ T0.drop i)).toArray 41 (0, 0))) ∧ Hid (w.grownBy wr (some g))) (fun ir _ => 8 - (intOf ir).toNat)
  case atStart => exact ⟨0, Nat.zero_le _, rfl, Lib.hid hR2, h23, hr3, Lib.hid (only_of_below hlow _)⟩
  case round =>
    obtain ⟨i, hi, rfl, RR, R2, R3, RG⟩ := hrel
    by_cases hlt : i < 8
    · have hn1 := fun W (hW : Rdr W g (rdN i s).2) => num_any g _ 8 W hW (by decide) (by decide)
      have hn2 := fun W (hW : Rdr W g ((rdN i s).2.num 8).2) => num_any g _ 2 W hW (by decide) (by decide)
      have hfin : (rdN (i + 1) s) = ((rdN i s).1 ++ [(rd1 (rdN i s).2).1], (rd1 (rdN i s).2).2) := rfl
      unfold rd1 at hfin
      have hL := rdN_len i s
      have hput := fun q => put_next _ i q hL hlt
      have hnx := next0 _ i hL hlt
      generalize hA : (rdN i s).2.num 8 = ra at *
      generalize hB : ra.2.num 2 = rb at *
      obtain ⟨t, s1⟩ := ra
      obtain ⟨b, s2⟩ := rb
      dsimp only at hn1 hn2 hfin
      have hcv : IntKind.u16.wrap (b : Int) = ((b % 65536 : Nat) : Int) := by rw [IntKind.wrap_u16]; omega
      obtain ⟨z0, z1⟩ := tcells_get _ i _ hnx
      have HN1 := Lib.hid hn1
      have HN2 := Lib.hid hn2
      have HF := Lib.hid hfin
      have HPUT := Lib.hid hput
      have Z0 := Lib.hid z0
      have Z1 := Lib.hid z1
      clear hn1 hn2 hfin hput hnx z0 z1 hL hA hB
      go_wp2_with (fail)
      refine (HN1.out _ RR.out).mono ?_
      rintro e w1 ⟨rfl, hR1, hg1⟩
      have HR1 := Lib.hid hR1
      have k2 := Lib.hid (row_far R2.out hg1 (fun e => by have := Option.some.inj e; omega))
      have k3 := Lib.hid (row_far R3.out hg1 (fun e => by have := Option.some.inj e; omega))
      have HG1 := Lib.hid (only_trans RG.out hg1)
      clear hR1 hg1
      go_wp2_with (fail)
      refine (HN2.out _ HR1.out).mono ?_
      rintro e w2 ⟨rfl, hR2', hg2⟩
      have HR2 := Lib.hid hR2'
      have m2 := Lib.hid (row_far k2.out hg2 (fun e => by have := Option.some.inj e; omega))
      have m3 := Lib.hid (row_far k3.out hg2 (fun e => by have := Option.some.inj e; omega))
      have HG2 := Lib.hid (only_trans HG1.out hg2)
      clear hR2' hg2
      have d0 : w2.cell? ⟨b3, i * 2, none⟩ = some (.int .u64 (0 : Int)) := by rw [cell_of_row w2 b3 _ _ _ _ m3.out]; simpa using Z0.out
      have d1 : w2.cell? ⟨b3, i * 2 + 1, none⟩ = some (.int .u16 (0 : Int)) := by rw [cell_of_row w2 b3 _ _ _ _ m3.out]; simpa using Z1.out
      have f0 := frozen_of_row w2 b3 (i * 2) _ _ m3.out
      have f1 := frozen_of_row w2 b3 (i * 2 + 1) _ _ m3.out
      have hp3 : ((w2.setCell ⟨b3, i * 2, none⟩ (.int .u64 (t : Int))).setCell ⟨b3, i * 2 + 1, none⟩ (.int .u16 ((b % 65536 : Nat) : Int))).heap[b3]? = some (.cells (tcells ((rdN (i + 1) s).1 ++ T0.drop (i + 1))).toArray 41 (0, 0)) := by
        rw [heap_setCell_same _ b3 _ _ _ _ (heap_setCell_same w2 b3 _ _ _ _ m3.out), HF.out]
        dsimp only
        rw [← HPUT.out, ← tcells_set]
        simp
      have hgs : w2.grownBy ((w2.setCell ⟨b3, i * 2, none⟩ (.int .u64 (t : Int))).setCell ⟨b3, i * 2 + 1, none⟩ (.int .u16 ((b % 65536 : Nat) : Int))) (some b3) := setCell_by (w' := w2.setCell ⟨b3, i * 2, none⟩ (.int .u64 (t : Int))) (p := ⟨b3, i * 2 + 1, none⟩) (setCell_by (w' := w2) (p := ⟨b3, i * 2, none⟩) (World.grownBy.refl w2 (some b3)) rfl _) rfl _
      have HP3 := Lib.hid hp3
      have q2 := Lib.hid (row_far m2.out hgs (fun e => by have := Option.some.inj e; omega))
      have HRn := Lib.hid (HR2.out.kept hgs (fun e => by have := Option.some.inj e; omega))
      have HG3 := Lib.hid (only_new HG2.out hgs (by omega))
      have HS2 : Hid ((rdN (i + 1) s).2 = s2) := Lib.hid (by rw [HF.out])
      clear hp3 hgs
      go_wp2_with (fail)
      go_roundw
      case rel => exact ⟨i + 1, by omega, by go_num, Lib.hid (by rw [HS2.out]; exact HRn.out), q2, HP3, HG3⟩
      case measure => simp [intOf]; omega
    · obtain rfl : i = 8 := by omega
      have hL := rdN_len 8 s
      have hdef : rdT s = if (rdN 8 s).2.bad then T0 else (rdN 8 s).1 := rfl
      have HTL := Lib.hid (rdT_len s)
      generalize hRT : rdT s = RT at *
      generalize hres : rdN 8 s = res at *
      obtain ⟨L, sf⟩ := res
      have HRT := Lib.hid hRT
      have HRES := Lib.hid hres
      dsimp only at hL hdef RR R3
      clear hRT hres
      have h3 := R3.out
      rw [show T0.drop 8 = [] from rfl, List.append_nil] at h3
      have H3 := Lib.hid h3
      have HL := Lib.hid hL
      have hbd := fun W h => bad_any g sf W h
      have HBD := Lib.hid hbd
      clear h3 R3 hL hbd
      cases hb : sf.bad
      · rw [hb] at hdef HBD
        obtain rfl : RT = L := by simpa using hdef
        clear hdef hb
        go_wp2_with (first
          | (go_at_call 110; refine (HBD.out _ RR.out).mono ?_; rintro e w1 ⟨rfl, rfl⟩)
          | (refine tabA.wpLoad (o := ⟨some 20, _, _, _, _, _⟩) rfl (.tmp 3) rfl rfl H3.out HL.out ?_)
          | (refine tabA.wpStore rfl (.tmp 2) (.tmp 20) rfl rfl rfl R2.out rfl HL.out ?_; intro W9 hr9 hg9 hz9)
          | fail)
        refine bodyPost_ret (results_cell_row (fn := Tryz.f75) rfl _ _ b2 41 _ (0, 0) _ rfl hr9.out Tryz.underlying41 rfl (by rw [tabA.size]; simp [tcells_len, HL.out])) rfl ⟨by rw [HRT.out]; rfl, by rw [HRES.out]; exact RR.out.kept hg9 (fun e => by have := Option.some.inj e; omega), only_new RG.out hg9 (by omega)⟩
      · rw [hb] at hdef HBD
        obtain rfl : RT = T0 := by simpa using hdef
        clear hdef hb
        go_wp2_with (first
          | (go_at_call 110; refine (HBD.out _ RR.out).mono ?_; rintro e w1 ⟨rfl, rfl⟩)
          | (refine tabA.wpBuild (o := ⟨some 19, _, _, _, _, _⟩) rfl rfl ?_)
          | (refine tabA.wpStore rfl (.tmp 2) (.tmp 19) rfl rfl rfl R2.out rfl rfl ?_; intro W9 hr9 hg9 hz9)
          | fail)
        refine bodyPost_ret (results_cell_row (fn := Tryz.f75) rfl _ _ b2 41 _ (0, 0) _ rfl hr9.out Tryz.underlying41 rfl (by rw [tabA.size]; rfl)) rfl ⟨by rw [HRT.out]; rfl, by rw [HRES.out]; exact RR.out.kept hg9 (fun e => by have := Option.some.inj e; omega), only_new RG.out hg9 (by omega)⟩

end Go.Proofs.YtgbbbemedncdoaaGreatDoor

namespace Go.Proofs.YtgbbbemedncdoaaGreatDoor
open Go.RowKit
set_option maxRecDepth 20000

theorem unle_le' (k x : Nat) : unle (le k x) = x % 256 ^ k := by
  induction k generalizing x with
  | zero => simp [le, unle, Nat.mod_one]
  | succ k ih =>
    have e : x % 256 ^ (k + 1) = x % 256 + 256 * (x / 256 % 256 ^ k) := by rw [Nat.pow_succ, Nat.mul_comm, Nat.mod_mul]
    rw [e]
    simp only [le, unle, ih, UInt8.toNat_ofNat']
    omega
theorem num_back (k x : Nat) (l : List UInt8) (hk : 1 ≤ k) (hk8 : k ≤ 8) (hx : x < 256 ^ k) : St.num ⟨le k x ++ l, false⟩ (k : Int) = (x, ⟨l, false⟩) := by
  have hn : St.next ⟨le k x ++ l, false⟩ (k : Int) = (le k x, ⟨l, false⟩) := by
    unfold St.next
    rw [if_pos (by simp only [List.length_append, le_len]; omega)]
    simp only [Int.toNat_natCast]
    rw [List.take_append_of_le_length (by rw [le_len]; exact Nat.le_refl _), List.take_of_length_le (by rw [le_len]; exact Nat.le_refl _), List.drop_append_of_le_length (by rw [le_len]; exact Nat.le_refl _), List.drop_of_length_le (by rw [le_len]; exact Nat.le_refl _), List.nil_append]
  unfold St.num
  rw [if_pos (by omega), hn, unle_le', Nat.mod_eq_of_lt hx]
theorem rd1_back (p : Cl) (l : List UInt8) (hp : p.ok) : rd1 ⟨le 8 p.1 ++ (le 2 p.2 ++ l), false⟩ = (p, ⟨l, false⟩) := by
  have h1 := num_back 8 p.1 (le 2 p.2 ++ l) (by decide) (by decide) hp.1
  have h2 := num_back 2 p.2 l (by decide) (by decide) hp.2
  unfold rd1
  rw [show ((8 : Nat) : Int) = 8 from rfl] at h1
  rw [show ((2 : Nat) : Int) = 2 from rfl] at h2
  rw [h1]
  dsimp only
  rw [h2]
  dsimp only
  rw [Nat.mod_eq_of_lt hp.2]
theorem rdN_back (T : List Cl) (hok : ∀ p ∈ T, Cl.ok p) (l : List UInt8) : ∀ k, k ≤ T.length → rdN k ⟨encT T ++ l, false⟩ = (T.take k, ⟨encT (T.drop k) ++ l, false⟩) := by
  intro k
  induction k with
  | zero => intro _; simp [rdN]
  | succ k ih =>
    intro hk
    have hlt : k < T.length := by omega
    have hd : encT (T.drop k) ++ l = le 8 T[k].1 ++ (le 2 T[k].2 ++ (encT (T.drop (k + 1)) ++ l)) := by
      rw [List.drop_eq_getElem_cons hlt]
      show ((le 8 T[k].1 ++ le 2 T[k].2) ++ encT (T.drop (k + 1))) ++ l = _
      simp only [List.append_assoc]
    unfold rdN
    rw [ih (by omega)]
    dsimp only
    rw [hd, rd1_back _ _ (hok _ (List.getElem_mem hlt))]
    dsimp only
    rw [List.take_succ_eq_append_getElem hlt]
theorem rdT_back (T : List Cl) (hT : Tok T) (l : List UInt8) : rdT ⟨encT T ++ l, false⟩ = T := by
  unfold rdT
  rw [rdN_back T hT.2 l 8 (by rw [hT.1]; exact Nat.le_refl _)]
  simp only [Bool.false_eq_true, if_false]
  rw [List.take_of_length_le (by rw [hT.1]; exact Nat.le_refl _)]
end Go.Proofs.YtgbbbemedncdoaaGreatDoor

namespace Go.Proofs.YtgbbbemedncdoaaGreatDoor
open Go.RowKit
set_option maxRecDepth 20000

section
variable {N : Nat} {W wd : World}
end
/-- The table in its variable. -/
def Tab (w : World) : Prop := 0 < w.heap.size ∧ ∀ j, j < 64 → w.cell? ⟨0, j, none⟩ = some (.int .u8 ((Lib.deBruijn64tab.getD j 0 : Nat) : Int))
theorem Tab.below {w w' : World} (h : Tab w) (hb : Below w.heap.size w w') : Tab w' := ⟨Nat.lt_of_lt_of_le h.1 hb.size, fun j hj => kept hb (h.2 j hj) h.1⟩
theorem Tab.step {w W w' : World} (h : Tab w) (hb : Below W.heap.size W w') (hw : Below w.heap.size w W) : Tab w' := h.below (hw.trans (hb.mono hw.size))

theorem tz_core (x k idx : Nat) (w : World) (hx0 : ((x : Int) == 0) = false)
    (key : IntKind.u64.wrap (bits BinOp.and IntKind.u64 (x : Int) (IntKind.u64.wrap (-(x : Int))) * 285870213051353865) / 288230376151711744 = (idx : Int))
    (hi : idx < 64) (hk : k < 64) (hcell : w.cell? ⟨0, idx, none⟩ = some (.int .u8 (k : Int))) :
    Calls Tryz.prog 119 #[.int .u64 (x : Int)] w fun e w' => e = .returned (.int .i64 (k : Int)) ∧ w = w' := by
  go_enter Tryz.func119, Tryz.ntmps119
  go_wp2_with (simp only [key])
  go_ret
  exact ⟨rfl, rfl⟩
theorem tz_key (x a : Nat) (hx : x < 18446744073709551616) (hlow : x &&& (18446744073709551616 - x) = a) (hx0 : x ≠ 0) :
    IntKind.u64.wrap (bits BinOp.and IntKind.u64 (x : Int) (IntKind.u64.wrap (-(x : Int))) * 285870213051353865) / 288230376151711744 = ((a * 285870213051353865 % 18446744073709551616 / 288230376151711744 : Nat) : Int) := by
  have e1 : IntKind.u64.wrap (-(x : Int)) = ((18446744073709551616 - x : Nat) : Int) := by rw [IntKind.wrap_u64]; omega
  rw [e1, bits_and_u64_nat x _ hx (by omega), hlow, IntKind.wrap_u64]
  omega
theorem tz_any (x : Nat) (w : World) (hx : x < 18446744073709551616) (hT : Tab w) :
    Calls Tryz.prog 119 #[.int .u64 (x : Int)] w fun e w' => e = .returned (.int .i64 ((Lib.ctz 64 x : Nat) : Int)) ∧ w = w' := by
  by_cases hx0 : x = 0
  · subst hx0
    go_enter Tryz.func119, Tryz.ntmps119
    go_wp2
    go_ret
    exact ⟨rfl, rfl⟩
  · obtain ⟨hlow, hk⟩ := Lib.lowest_bit 64 x hx0 hx
    obtain ⟨hi, htab⟩ := Lib.deBruijn64_at _ hk
    have hcell := hT.2 _ hi
    rw [htab] at hcell
    exact tz_core x _ _ w (by simp; omega) (tz_key x _ hx hlow hx0) hi hk hcell

theorem tab_val (i : Int) (h0 : 0 ≤ i) (h1 : i < 256) (h : i.toNat < Lib.len8tab.size) : (((Lib.len8tab[i.toNat]'h).toNat : Nat) : Int) = ((Lib.bitLen i.toNat : Nat) : Int) := by
  rw [← Lib.len8_of i h0 (by omega)]
  unfold Lib.len8
  rw [ByteArray.getElem?_lt' _ _ h]
  rfl
theorem tab_fin (k b : Nat) (x : Int) (h : b ≤ 8) (hk : k ≤ 56) (e : ((k + b : Nat) : Int) = x) : wrap64 ((k : Int) + wrap64 (b : Int)) = x := by
  rw [← e]
  unfold wrap64
  omega

set_option maxHeartbeats 4000000 in
set_option maxRecDepth 100000 in
theorem len_int (x : Int) (w : World) (h0 : 0 ≤ x) (h1 : x ≤ 18446744073709551615) :
    Calls Tryz.prog 135 #[.int .u64 x] w fun e w' => e = .returned (.int .i64 (Lib.bitLen x.toNat : Int)) ∧ w = w' := by
  have t9 := Tryz.underlying9
  go_enter Tryz.func135, Tryz.ntmps135
  go_wp2
  all_goals (first | (exfalso; rw [Lib.len8tab_size] at *; omega) | (go_ret; refine ⟨congrArg Ending.returned (congrArg (Value.int IntKind.i64) ?_), rfl⟩))
  all_goals first
    | (rw [tab_val (x / 4294967296 / 65536 / 256) (by omega) (by omega)]
       have e : (x / 4294967296 / 65536 / 256).toNat = x.toNat / 72057594037927936 := by omega
       have l := Lib.bitLen_le8' (x / 4294967296 / 65536 / 256) (by omega) (by omega)
       have s := Lib.bitLen_shift56 x.toNat (by omega) (by omega)
       rw [e] at l ⊢
       exact tab_fin 56 _ _ l (by omega) (by omega))
    | (rw [tab_val (x / 4294967296 / 65536) (by omega) (by omega)]
       have e : (x / 4294967296 / 65536).toNat = x.toNat / 281474976710656 := by omega
       have l := Lib.bitLen_le8' (x / 4294967296 / 65536) (by omega) (by omega)
       have s := Lib.bitLen_shift48 x.toNat (by omega) (by omega)
       rw [e] at l ⊢
       exact tab_fin 48 _ _ l (by omega) (by omega))
    | (rw [tab_val (x / 4294967296 / 256) (by omega) (by omega)]
       have e : (x / 4294967296 / 256).toNat = x.toNat / 1099511627776 := by omega
       have l := Lib.bitLen_le8' (x / 4294967296 / 256) (by omega) (by omega)
       have s := Lib.bitLen_shift40 x.toNat (by omega) (by omega)
       rw [e] at l ⊢
       exact tab_fin 40 _ _ l (by omega) (by omega))
    | (rw [tab_val (x / 4294967296) (by omega) (by omega)]
       have e : (x / 4294967296).toNat = x.toNat / 4294967296 := by omega
       have l := Lib.bitLen_le8' (x / 4294967296) (by omega) (by omega)
       have s := Lib.bitLen_shift32 x.toNat (by omega) (by omega)
       rw [e] at l ⊢
       exact tab_fin 32 _ _ l (by omega) (by omega))
    | (rw [tab_val (x / 65536 / 256) (by omega) (by omega)]
       have e : (x / 65536 / 256).toNat = x.toNat / 16777216 := by omega
       have l := Lib.bitLen_le8' (x / 65536 / 256) (by omega) (by omega)
       have s := Lib.bitLen_shift24 x.toNat (by omega) (by omega)
       rw [e] at l ⊢
       exact tab_fin 24 _ _ l (by omega) (by omega))
    | (rw [tab_val (x / 65536) (by omega) (by omega)]
       have e : (x / 65536).toNat = x.toNat / 65536 := by omega
       have l := Lib.bitLen_le8' (x / 65536) (by omega) (by omega)
       have s := Lib.bitLen_shift16 x.toNat (by omega) (by omega)
       rw [e] at l ⊢
       exact tab_fin 16 _ _ l (by omega) (by omega))
    | (rw [tab_val (x / 256) (by omega) (by omega)]
       have e : (x / 256).toNat = x.toNat / 256 := by omega
       have l := Lib.bitLen_le8' (x / 256) (by omega) (by omega)
       have s := Lib.bitLen_shift8 x.toNat (by omega) (by omega)
       rw [e] at l ⊢
       exact tab_fin 8 _ _ l (by omega) (by omega))
    | (rw [tab_val x (by omega) (by omega)]
       have l := Lib.bitLen_le8' x (by omega) (by omega)
       have := tab_fin 0 _ _ l (by omega) rfl
       simpa using this)
theorem len_any (x : Nat) (w : World) (hx : x < 18446744073709551616) :
    Calls Tryz.prog 135 #[.int .u64 (x : Int)] w fun e w' => e = .returned (.int .i64 ((Lib.bitLen x : Nat) : Int)) ∧ w = w' :=
  len_int (x : Int) w (by omega) (by omega)

end Go.Proofs.YtgbbbemedncdoaaGreatDoor
