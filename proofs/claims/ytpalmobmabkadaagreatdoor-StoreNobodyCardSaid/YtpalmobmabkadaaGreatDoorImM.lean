/- A table's bytes, both ways. A table is read. What is written is read. Images as data: what may be, their bytes, both ways. -/
import Derived.Test.YtpalmobmabkadaaGreatDoorTqM
import Derived.Test.YtpalmobmabkadaaGreatDoorSegsZM
import Derived.Test.YtpalmobmabkadaaGreatDoorMbitsM
import Derived.Test.YtpalmobmabkadaaGreatDoorFjoinbZM
import Derived.Test.YtpalmobmabkadaaGreatDoorFzeroZM
import Derived.Test.YtpalmobmabkadaaGreatDoorMarks2M
namespace Go.Proofs.YtpalmobmabkadaaGreatDoor
open Go.RowKit
set_option maxRecDepth 20000

def encT (T : List Cl) : List UInt8 := T.flatMap fun p => le 8 p.1 ++ le 2 p.2
theorem encT_len (T : List Cl) : (encT T).length = 10 * T.length := by
  induction T with
  | nil => rfl
  | cons p T ih =>
    have e : encT (p :: T) = (le 8 p.1 ++ le 2 p.2) ++ encT T := rfl
    rw [e, List.length_append, List.length_append, le_len, le_len, ih, List.length_cons]
    omega
theorem encT_take {T : List Cl} {i : Nat} {p : Cl} (h : T[i]? = some p) : encT (T.take (i + 1)) = encT (T.take i) ++ le 8 p.1 ++ le 2 p.2 := by
  obtain ⟨hi, rfl⟩ := List.getElem?_eq_some_iff.1 h
  unfold encT
  rw [List.take_succ_eq_append_getElem hi, List.flatMap_append]
  simp
theorem puts_one' (k x : Nat) : puts k [x] = le k x := by simp [puts]
theorem TabT.index {P : Program} {ty ct : TypeId} (h : TabT P ty ct) {T : List Cl} {i : Nat} {p : Cl} (hp : T[i]? = some p) (hi : i < 8) (w : World) : (Instr.index ty (tbv T) (.int .i64 (i : Int))).run P w = .ok (clv p) w := by
  have hs : (Go.sizeOf ct).run P w = .ok 2 w := run_size h.csize
  have hpart := h.partCl (w := w) T i p hp
  have hlt : (0 : Int) ≤ (i : Int) ∧ (i : Int) < ((8 : Nat) : Int) := by omega
  unfold tbv
  simp only [Instr.index, asIntOf, Sem.run_bind, Sem.run_pure, Result.andThen_ok, run_underlying h.und, if_pos hlt, hs, Int.toNat_natCast, hpart]

theorem lit1 (X : World) (t n : Nat) (e : TypeId) (hn : X.heap.size = n) : Rd (X.alloc (.cells #[.int .u64 (t : Int)] e)) (X.alloc (.cells #[.int .u64 (t : Int)] e)).heap.size 1 (some ⟨n, 0, none⟩) 1 1 (u64s [t]) := by
  subst hn
  exact Rd.lit X #[.int .u64 (t : Int)] _ rfl (by unfold maxLen; omega) (by simp)
set_option maxHeartbeats 2000000 in
theorem tbytes_any (T : List Cl) (w : World) (hT : Tok T) :
    Calls Tryz.prog 102 #[tbv T] w fun e w' => ∃ v, e = .returned v ∧ w'.ownsRow w.heap.size 5 1 v 80 (u8s (encT T)) ∧ Below w.heap.size w w' := by
  have HT := Lib.hid hT.1
  have HK := Lib.hid hT.2
  clear hT
  go_enter Tryz.func102, Tryz.ntmps102
  go_wp2_with (first
    | (refine wpL_tbox rfl (.tmp 0) rfl rfl ?_; intro W0 b1 hN; obtain ⟨hb1, hr1, hl1, hz1⟩ := hN)
    | (refine tabA.wpLoad (o := ⟨some 6, _, _, _, _, _⟩) rfl (.tmp 1) rfl rfl hr1.out HT.out ?_)
    | fail)
  go_loopw [3, 7] (fun vr ir wr => ∃ i : Nat, i ≤ 8 ∧ ir = .int .i64 (i : Int) ∧ Hid (wr.ownsRow w.heap.size 5 1 vr (10 * i) (u8s (encT (T.take i)))) ∧ Hid (Below w.heap.size w wr)) (fun _ ir _ => 8 - (intOf ir).toNat)
  case atStart => exact ⟨0, Nat.zero_le _, rfl, Lib.hid (World.ownsRow_nil _ _ _ _), Lib.hid hl1⟩
  case round =>
    obtain ⟨i, hi, rfl, RO, RB⟩ := hrel
    obtain ⟨A, c, rfl⟩ := ownsRow_form RO.out
    by_cases hlt : i < 8
    · obtain ⟨p, hp⟩ : ∃ p, T[i]? = some p := ⟨_, List.getElem?_eq_getElem (by have := HT.out; omega)⟩
      have hix := tabA.index (T := T) hp hlt
      have hok := HK.out p (List.mem_of_getElem? hp)
      have hw16 : IntKind.u64.wrap (p.2 : Int) = (p.2 : Int) := u64w _ (by omega) (by have := hok.2; omega)
      have HE := Lib.hid (encT_take hp)
      have hsz := RB.out.size
      obtain ⟨t, b⟩ := p
      unfold clv at hix
      dsimp only at hix hw16 HE
      clear hp hok
      have hle : w.heap.size ≤ wr.heap.size := hsz
      have hrd0 := (ownsRow_rd RO.out).below (below2 wr (.cells #[.int .u64 (t : Int), .int .u16 (b : Int)] 39) (.cells #[.int .u64 (t : Int)] 34)) |>.more (B' := ((wr.alloc (.cells #[.int .u64 (t : Int), .int .u16 (b : Int)] 39)).alloc (.cells #[.int .u64 (t : Int)] 34)).heap.size) (by simp; omega)
      have hl0 := lit1 (wr.alloc (.cells #[.int .u64 (t : Int), .int .u16 (b : Int)] 39)) t (wr.heap.size + 1) 34 (by simp)
      have HP0 := Lib.hid (put_good _ _ _ _ 1 1 (encT (T.take i)) [t] 8 _ hrd0 hl0 (by omega) (by omega) (by omega))
      clear hrd0 hl0
      go_wp2_with (fail)
      refine HP0.out.mono ?_
      rintro e w1 ⟨v1, rfl, hown1, hb1w⟩
      rw [puts_one', show 10 * i + 1 * 8 = 10 * i + 8 from rfl] at hown1
      obtain ⟨A1, c1, rfl⟩ := ownsRow_form hown1
      have k1 : w1.cell? ⟨wr.heap.size, 1, none⟩ = some (.int .u16 (b : Int)) := by
        have := cell_of_row ((wr.alloc (.cells #[.int .u64 (t : Int), .int .u16 (b : Int)] 39)).alloc (.cells #[.int .u64 (t : Int)] 34)) wr.heap.size 1 _ _ _ (row_old _ (heap_alloc_new wr _))
        exact kept hb1w this (by simp; omega)
      have hb01 : Below wr.heap.size wr w1 := (below2 wr _ _).trans (hb1w.mono (by simp; omega))
      have hrd1 := (ownsRow_rd hown1).below (below1 w1 (.cells #[.int .u64 (b : Int)] 34)) |>.more (B' := (w1.alloc (.cells #[.int .u64 (b : Int)] 34)).heap.size) (by simp)
      have hl1 := lit1 w1 b w1.heap.size 34 rfl
      have HP1 := Lib.hid (put_good _ _ _ _ 1 1 (encT (T.take i) ++ le 8 t) [b] 2 _ hrd1 hl1 (by omega) (by omega) (by omega))
      have HB1 := Lib.hid hb01
      clear hown1 hb1w hb01 hrd1 hl1 HP0
      go_wp2_with (fail)
      refine HP1.out.mono ?_
      rintro e w2 ⟨v2, rfl, hown2, hb2w⟩
      rw [puts_one', show 10 * i + 8 + 1 * 2 = 10 * (i + 1) by omega, ← HE.out] at hown2
      have hb02 : Below wr.heap.size wr w2 := HB1.out.trans ((unal hb2w).mono HB1.out.size)
      have HO2 := Lib.hid (ownsRow_low hown2 (base' := w.heap.size) (by have := HB1.out.size; simp; omega))
      have HB2 := Lib.hid (RB.out.trans (hb02.mono hsz))
      clear hown2 hb2w hb02 HP1
      go_wp2_with (fail)
      go_roundw
      case rel => exact ⟨i + 1, by omega, by go_num, HO2, HB2⟩
      case measure => simp [intOf]; omega
    · obtain rfl : i = 8 := by omega
      have hown := RO.out
      rw [List.take_of_length_le (by rw [HT.out]; exact Nat.le_refl _)] at hown
      have HO := Lib.hid hown
      clear hown RO
      go_wp2
      go_ret
      exact ⟨_, rfl, HO.out, RB.out⟩

end Go.Proofs.YtpalmobmabkadaaGreatDoor

namespace Go.Proofs.YtpalmobmabkadaaGreatDoor
open Go.RowKit
set_option maxRecDepth 20000

def rd1 (s : St) : Cl × St := (((s.num 8).1, ((s.num 8).2.num 2).1 % 65536), ((s.num 8).2.num 2).2)
def rdN : Nat → St → List Cl × St
  | 0, s => ([], s)
  | k + 1, s => ((rdN k s).1 ++ [(rd1 (rdN k s).2).1], (rd1 (rdN k s).2).2)
theorem rdN_len (k : Nat) (s : St) : (rdN k s).1.length = k := by
  induction k with
  | zero => rfl
  | succ k ih => simp [rdN, ih]
def rdT (s : St) : List Cl := if (rdN 8 s).2.bad then T0 else (rdN 8 s).1
theorem rdT_len (s : St) : (rdT s).length = 8 := by unfold rdT; split; rfl; exact rdN_len 8 s
theorem num_lt (s : St) (W : Int) (h : W ≤ 8) : (s.num W).1 < 18446744073709551616 := by
  unfold St.num
  split
  · have hl := St.next_len s W
    exact unle_le8 _ (by rcases hl with h | h; omega; rw [h]; exact Nat.zero_le _)
  · exact (by decide)
theorem rdN_ok (k : Nat) (s : St) : ∀ p ∈ (rdN k s).1, Cl.ok p := by
  induction k with
  | zero => intro p h; cases h
  | succ k ih =>
    intro p h
    simp only [rdN, List.mem_append, List.mem_singleton] at h
    rcases h with h | rfl
    · exact ih p h
    · exact ⟨num_lt _ 8 (by decide), Nat.mod_lt _ (by decide)⟩
theorem t0_ok : Tok T0 := ⟨rfl, fun p hp => by have := List.eq_of_mem_replicate hp; subst this; exact ⟨by decide, by decide⟩⟩
theorem rdT_ok (s : St) : Tok (rdT s) := by
  unfold rdT
  split
  · exact t0_ok
  · exact ⟨rdN_len 8 s, rdN_ok 8 s⟩
theorem put_next (L : List Cl) (i : Nat) (q : Cl) (hL : L.length = i) (hi : i < 8) : (L ++ T0.drop i).set i q = (L ++ [q]) ++ T0.drop (i + 1) := by
  subst hL
  rw [List.set_append_right _ _ (Nat.le_refl _), Nat.sub_self]
  have e : T0.drop L.length = (0, 0) :: T0.drop (L.length + 1) := by
    rw [List.drop_eq_getElem_cons (by unfold T0; rw [List.length_replicate]; exact hi)]
    congr 1
    unfold T0
    rw [List.getElem_replicate]
  rw [e, List.set_cons_zero, List.append_assoc]
  rfl
theorem next0 (L : List Cl) (i : Nat) (hL : L.length = i) (hi : i < 8) : (L ++ T0.drop i)[i]? = some (0, 0) := by
  subst hL
  rw [List.getElem?_append_right (Nat.le_refl _), Nat.sub_self, List.getElem?_drop]
  unfold T0
  rw [List.getElem?_replicate, if_pos (by omega)]

theorem only_setCell {a w : World} {g : Nat} (h : a.grownBy w (some g)) {p : Addr} (hp : p.block = g ∨ a.heap.size ≤ p.block) (u : Value) : a.grownBy (w.setCell p u) (some g) :=
  ⟨h.os, h.tape, h.output, by simpa [World.setCell] using h.size, fun i hi hne => (Below.heap_setCell w p u i (by
    rintro rfl
    rcases hp with hp | hp
    · exact hne (by rw [hp])
    · omega)).trans (h.block i hi hne)⟩
theorem only_of_below {a w : World} (h : Below a.heap.size a w) (row : Option Nat) : a.grownBy w row := ⟨h.os, h.tape, h.output, h.size, fun i hi _ => h.block i hi⟩
theorem only_trans {a b c : World} {g : Nat} (h : a.grownBy b (some g)) (k : b.grownBy c (some g)) : a.grownBy c (some g) := grownBy_trans h k (.inl rfl)
theorem only_new {a b c : World} {g q : Nat} (h : a.grownBy b (some g)) (k : b.grownBy c (some q)) (hq : a.heap.size ≤ q) : a.grownBy c (some g) := grownBy_trans h k (.inr fun x e => by cases e; exact hq)

set_option maxRecDepth 20000 in
set_option maxHeartbeats 2000000 in
theorem tread_any (g : Nat) (s : St) (w : World) (h : Rdr w g s) :
    Calls Tryz.prog 75 #[.pointer (some ⟨g, 0, none⟩)] w fun e w' => e = .returned (tbv (rdT s)) ∧ Rdr w' g (rdN 8 s).2 ∧ w.grownBy w' (some g) := by
  have HR := Lib.hid h
  have hg := h.lt
  clear h
  go_enter Tryz.func75, Tryz.ntmps75
  go_wp2_with (first
    | (refine tabA.wpNew (o := ⟨some 2, _, _, _, _, _⟩) rfl rfl ?_; intro W1 b2 hN; obtain ⟨hb2, hr2, hl2, hz2⟩ := hN)
    | (refine tabA.wpNew (o := ⟨some 3, _, _, _, _, _⟩) rfl rfl ?_; intro W2 b3 hN; obtain ⟨hb3, hr3, hl3, hz3⟩ := hN
       have h23 := Lib.hid (row_below hr2.out hl3)
       have lt3 : b2 < b3 := by have := hb3.out; have := hz2.out; omega)
    | fail)
  have hlow : Below w.heap.size w W2 := hl2.trans (hl3.mono hl2.size)
  have hle2 : w.heap.size ≤ b2 := Nat.le_of_eq hb2.out.symm
  have hR2 := HR.out.kept (only_of_below hlow none) (by simp)
  go_loopw [5] (fun ir wr => ∃ i : Nat, i ≤ 8 ∧ ir = .int .i64 (i : Int) ∧ Hid (Rdr wr g (rdN i s).2) ∧ Hid (wr.heap[b2]? = some (.cells (tcells T0).toArray 41 (0, 0))) ∧ Hid (wr.heap[b3]? = some (.cells (tcells ((rdN i s).1 ++ T0.drop i)).toArray 41 (0, 0))) ∧ Hid (w.grownBy wr (some g))) (fun ir _ => 8 - (intOf ir).toNat)
  case atStart => exact ⟨0, Nat.zero_le _, rfl, Lib.hid hR2, h23, hr3, Lib.hid (only_of_below hlow _)⟩
  case round =>
    obtain ⟨i, hi, rfl, RR, R2, R3, RG⟩ := hrel
    by_cases hlt : i < 8
    · have hn1 := fun W (hW : Rdr W g (rdN i s).2) => num_any g _ 8 W hW (by decide) (by decide)
      have hn2 := fun W (hW : Rdr W g ((rdN i s).2.num 8).2) => num_any g _ 2 W hW (by decide) (by decide)
      have hfin : (rdN (i + 1) s) = ((rdN i s).1 ++ [(rd1 (rdN i s).2).1], (rd1 (rdN i s).2).2) := rfl
      unfold rd1 at hfin
      have hL := rdN_len i s
      have hput := fun q => put_next _ i q hL hlt
      have hnx := next0 _ i hL hlt
      generalize hA : (rdN i s).2.num 8 = ra at *
      generalize hB : ra.2.num 2 = rb at *
      obtain ⟨t, s1⟩ := ra
      obtain ⟨b, s2⟩ := rb
      dsimp only at hn1 hn2 hfin
      have hcv : IntKind.u16.wrap (b : Int) = ((b % 65536 : Nat) : Int) := by rw [IntKind.wrap_u16]; omega
      obtain ⟨z0, z1⟩ := tcells_get _ i _ hnx
      have HN1 := Lib.hid hn1
      have HN2 := Lib.hid hn2
      have HF := Lib.hid hfin
      have HPUT := Lib.hid hput
      have Z0 := Lib.hid z0
      have Z1 := Lib.hid z1
      clear hn1 hn2 hfin hput hnx z0 z1 hL hA hB
      go_wp2_with (fail)
      refine (HN1.out _ RR.out).mono ?_
      rintro e w1 ⟨rfl, hR1, hg1⟩
      have HR1 := Lib.hid hR1
      have k2 := Lib.hid (row_far R2.out hg1 (fun e => by have := Option.some.inj e; omega))
      have k3 := Lib.hid (row_far R3.out hg1 (fun e => by have := Option.some.inj e; omega))
      have HG1 := Lib.hid (only_trans RG.out hg1)
      clear hR1 hg1
      go_wp2_with (fail)
      refine (HN2.out _ HR1.out).mono ?_
      rintro e w2 ⟨rfl, hR2', hg2⟩
      have HR2 := Lib.hid hR2'
      have m2 := Lib.hid (row_far k2.out hg2 (fun e => by have := Option.some.inj e; omega))
      have m3 := Lib.hid (row_far k3.out hg2 (fun e => by have := Option.some.inj e; omega))
      have HG2 := Lib.hid (only_trans HG1.out hg2)
      clear hR2' hg2
      have d0 : w2.cell? ⟨b3, i * 2, none⟩ = some (.int .u64 (0 : Int)) := by rw [cell_of_row w2 b3 _ _ _ _ m3.out]; simpa using Z0.out
      have d1 : w2.cell? ⟨b3, i * 2 + 1, none⟩ = some (.int .u16 (0 : Int)) := by rw [cell_of_row w2 b3 _ _ _ _ m3.out]; simpa using Z1.out
      have f0 := frozen_of_row w2 b3 (i * 2) _ _ m3.out
      have f1 := frozen_of_row w2 b3 (i * 2 + 1) _ _ m3.out
      have hp3 : ((w2.setCell ⟨b3, i * 2, none⟩ (.int .u64 (t : Int))).setCell ⟨b3, i * 2 + 1, none⟩ (.int .u16 ((b % 65536 : Nat) : Int))).heap[b3]? = some (.cells (tcells ((rdN (i + 1) s).1 ++ T0.drop (i + 1))).toArray 41 (0, 0)) := by
        rw [heap_setCell_same _ b3 _ _ _ _ (heap_setCell_same w2 b3 _ _ _ _ m3.out), HF.out]
        dsimp only
        rw [← HPUT.out, ← tcells_set]
        simp
      have hgs : w2.grownBy ((w2.setCell ⟨b3, i * 2, none⟩ (.int .u64 (t : Int))).setCell ⟨b3, i * 2 + 1, none⟩ (.int .u16 ((b % 65536 : Nat) : Int))) (some b3) := setCell_by (w' := w2.setCell ⟨b3, i * 2, none⟩ (.int .u64 (t : Int))) (p := ⟨b3, i * 2 + 1, none⟩) (setCell_by (w' := w2) (p := ⟨b3, i * 2, none⟩) (World.grownBy.refl w2 (some b3)) rfl _) rfl _
      have HP3 := Lib.hid hp3
      have q2 := Lib.hid (row_far m2.out hgs (fun e => by have := Option.some.inj e; omega))
      have HRn := Lib.hid (HR2.out.kept hgs (fun e => by have := Option.some.inj e; omega))
      have HG3 := Lib.hid (only_new HG2.out hgs (by omega))
      have HS2 : Hid ((rdN (i + 1) s).2 = s2) := Lib.hid (by rw [HF.out])
      clear hp3 hgs
      go_wp2_with (fail)
      go_roundw
      case rel => exact ⟨i + 1, by omega, by go_num, Lib.hid (by rw [HS2.out]; exact HRn.out), q2, HP3, HG3⟩
      case measure => simp [intOf]; omega
    · obtain rfl : i = 8 := by omega
      have hL := rdN_len 8 s
      have hdef : rdT s = if (rdN 8 s).2.bad then T0 else (rdN 8 s).1 := rfl
      have HTL := Lib.hid (rdT_len s)
      generalize hRT : rdT s = RT at *
      generalize hres : rdN 8 s = res at *
      obtain ⟨L, sf⟩ := res
      have HRT := Lib.hid hRT
      have HRES := Lib.hid hres
      dsimp only at hL hdef RR R3
      clear hRT hres
      have h3 := R3.out
      rw [show T0.drop 8 = [] from rfl, List.append_nil] at h3
      have H3 := Lib.hid h3
      have HL := Lib.hid hL
      have hbd := fun W h => bad_any g sf W h
      have HBD := Lib.hid hbd
      clear h3 R3 hL hbd
      cases hb : sf.bad
      · rw [hb] at hdef HBD
        obtain rfl : RT = L := by simpa using hdef
        clear hdef hb
        go_wp2_with (first
          | (go_at_call 110; refine (HBD.out _ RR.out).mono ?_; rintro e w1 ⟨rfl, rfl⟩)
          | (refine tabA.wpLoad (o := ⟨some 20, _, _, _, _, _⟩) rfl (.tmp 3) rfl rfl H3.out HL.out ?_)
          | (refine tabA.wpStore rfl (.tmp 2) (.tmp 20) rfl rfl rfl R2.out rfl HL.out ?_; intro W9 hr9 hg9 hz9)
          | fail)
        refine bodyPost_ret (results_cell_row (fn := Tryz.f75) rfl _ _ b2 41 _ (0, 0) _ rfl hr9.out Tryz.underlying41 rfl (by rw [tabA.size]; simp [tcells_len, HL.out])) rfl ⟨by rw [HRT.out]; rfl, by rw [HRES.out]; exact RR.out.kept hg9 (fun e => by have := Option.some.inj e; omega), only_new RG.out hg9 (by omega)⟩
      · rw [hb] at hdef HBD
        obtain rfl : RT = T0 := by simpa using hdef
        clear hdef hb
        go_wp2_with (first
          | (go_at_call 110; refine (HBD.out _ RR.out).mono ?_; rintro e w1 ⟨rfl, rfl⟩)
          | (refine tabA.wpBuild (o := ⟨some 19, _, _, _, _, _⟩) rfl rfl ?_)
          | (refine tabA.wpStore rfl (.tmp 2) (.tmp 19) rfl rfl rfl R2.out rfl rfl ?_; intro W9 hr9 hg9 hz9)
          | fail)
        refine bodyPost_ret (results_cell_row (fn := Tryz.f75) rfl _ _ b2 41 _ (0, 0) _ rfl hr9.out Tryz.underlying41 rfl (by rw [tabA.size]; rfl)) rfl ⟨by rw [HRT.out]; rfl, by rw [HRES.out]; exact RR.out.kept hg9 (fun e => by have := Option.some.inj e; omega), only_new RG.out hg9 (by omega)⟩

end Go.Proofs.YtpalmobmabkadaaGreatDoor

namespace Go.Proofs.YtpalmobmabkadaaGreatDoor
open Go.RowKit
set_option maxRecDepth 20000

theorem unle_le' (k x : Nat) : unle (le k x) = x % 256 ^ k := by
  induction k generalizing x with
  | zero => simp [le, unle, Nat.mod_one]
  | succ k ih =>
    have e : x % 256 ^ (k + 1) = x % 256 + 256 * (x / 256 % 256 ^ k) := by rw [Nat.pow_succ, Nat.mul_comm, Nat.mod_mul]
    rw [e]
    simp only [le, unle, ih, UInt8.toNat_ofNat']
    omega
theorem num_back (k x : Nat) (l : List UInt8) (hk : 1 ≤ k) (hk8 : k ≤ 8) (hx : x < 256 ^ k) : St.num ⟨le k x ++ l, false⟩ (k : Int) = (x, ⟨l, false⟩) := by
  have hn : St.next ⟨le k x ++ l, false⟩ (k : Int) = (le k x, ⟨l, false⟩) := by
    unfold St.next
    rw [if_pos (by simp only [List.length_append, le_len]; omega)]
    simp only [Int.toNat_natCast]
    rw [List.take_append_of_le_length (by rw [le_len]; exact Nat.le_refl _), List.take_of_length_le (by rw [le_len]; exact Nat.le_refl _), List.drop_append_of_le_length (by rw [le_len]; exact Nat.le_refl _), List.drop_of_length_le (by rw [le_len]; exact Nat.le_refl _), List.nil_append]
  unfold St.num
  rw [if_pos (by omega), hn, unle_le', Nat.mod_eq_of_lt hx]
theorem rd1_back (p : Cl) (l : List UInt8) (hp : p.ok) : rd1 ⟨le 8 p.1 ++ (le 2 p.2 ++ l), false⟩ = (p, ⟨l, false⟩) := by
  have h1 := num_back 8 p.1 (le 2 p.2 ++ l) (by decide) (by decide) hp.1
  have h2 := num_back 2 p.2 l (by decide) (by decide) hp.2
  unfold rd1
  rw [show ((8 : Nat) : Int) = 8 from rfl] at h1
  rw [show ((2 : Nat) : Int) = 2 from rfl] at h2
  rw [h1]
  dsimp only
  rw [h2]
  dsimp only
  rw [Nat.mod_eq_of_lt hp.2]
theorem rdN_back (T : List Cl) (hok : ∀ p ∈ T, Cl.ok p) (l : List UInt8) : ∀ k, k ≤ T.length → rdN k ⟨encT T ++ l, false⟩ = (T.take k, ⟨encT (T.drop k) ++ l, false⟩) := by
  intro k
  induction k with
  | zero => intro _; simp [rdN]
  | succ k ih =>
    intro hk
    have hlt : k < T.length := by omega
    have hd : encT (T.drop k) ++ l = le 8 T[k].1 ++ (le 2 T[k].2 ++ (encT (T.drop (k + 1)) ++ l)) := by
      rw [List.drop_eq_getElem_cons hlt]
      show ((le 8 T[k].1 ++ le 2 T[k].2) ++ encT (T.drop (k + 1))) ++ l = _
      simp only [List.append_assoc]
    unfold rdN
    rw [ih (by omega)]
    dsimp only
    rw [hd, rd1_back _ _ (hok _ (List.getElem_mem hlt))]
    dsimp only
    rw [List.take_succ_eq_append_getElem hlt]
theorem rdT_back (T : List Cl) (hT : Tok T) (l : List UInt8) : rdT ⟨encT T ++ l, false⟩ = T := by
  unfold rdT
  rw [rdN_back T hT.2 l 8 (by rw [hT.1]; exact Nat.le_refl _)]
  simp only [Bool.false_eq_true, if_false]
  rw [List.take_of_length_le (by rw [hT.1]; exact Nat.le_refl _)]
end Go.Proofs.YtpalmobmabkadaaGreatDoor

namespace Go.Proofs.YtpalmobmabkadaaGreatDoor
open Go.RowKit
set_option maxRecDepth 20000

/-- An image: its marks, its blocks, its requests. -/
structure Im where
  L : Nat
  B : Nat
  l : List UInt8
  T : List Cl
  deriving DecidableEq
def Im.ok (i : Im) : Prop := i.L < 18446744073709551616 ∧ i.B < 18446744073709551616 ∧ Tok i.T
def icells (i : Im) : List Value := .int .u64 (i.L : Int) :: .int .u64 (i.B : Int) :: .string (str i.l) :: tcells i.T
def imv (i : Im) : Value := .agg (icells i).toArray
def I0 : Im := ⟨0, 0, [], T0⟩
theorem i0_ok : I0.ok := ⟨by decide, by decide, t0_ok⟩
theorem icells_len (i : Im) : (icells i).length = 3 + 2 * i.T.length := by
  simp only [icells, List.length_cons, tcells_len]; omega
theorem icells_19 {i : Im} (h : i.T.length = 8) : (icells i).length = 19 := by rw [icells_len, h]
theorem icells_one (i : Im) : ∀ u ∈ icells i, u.oneCell' = true := by
  intro u hu
  simp only [icells, List.mem_cons] at hu
  rcases hu with rfl | rfl | rfl | hu
  · rfl
  · rfl
  · rfl
  · exact tcells_one _ u hu
def szB (l : List UInt8) : Bool := decide (l.length % 8 = 0 ∧ 8 ≤ l.length ∧ l.length ≤ 512)
def igB (i : Im) : Bool := gdB i.L i.B && szB i.l
def body15 (i : Im) : List UInt8 := (((le 8 i.L ++ le 8 i.B) ++ le 2 i.l.length) ++ i.l) ++ encT i.T
def imk (i : Im) : List UInt8 × Int := if igB i = true then (sealOf (body15 i), 0) else ([], 2)
def irdS (s : St) : Im × St :=
  (⟨(s.num 8).1, ((s.num 8).2.num 8).1, ((s.num 8).2.num 8).2.text.1, rdT ((s.num 8).2.num 8).2.text.2⟩, (rdN 8 ((s.num 8).2.num 8).2.text.2).2)
def irdB (b : List UInt8) : Im × Int := if (irdS ⟨b, false⟩).2.end_ = 0 ∧ igB (irdS ⟨b, false⟩).1 = true then ((irdS ⟨b, false⟩).1, 0) else (I0, 10)
def ird (s : List UInt8) : Im × Int := if (openOf s).2 = 0 then irdB (openOf s).1 else (I0, (openOf s).2)

theorem irdS_ok (s : St) : (irdS s).1.ok := by
  have h1 := num_lt s 8 (by decide)
  have h2 := num_lt (s.num 8).2 8 (by decide)
  have h3 := rdT_ok ((s.num 8).2.num 8).2.text.2
  unfold Im.ok irdS
  dsimp only
  exact ⟨h1, h2, h3⟩
theorem irdB_ok (b : List UInt8) : (irdB b).1.ok := by
  have h1 := irdS_ok ⟨b, false⟩
  have h2 := i0_ok
  unfold irdB
  generalize irdS ⟨b, false⟩ = r at *
  by_cases h : r.2.end_ = 0 ∧ igB r.1 = true
  · rw [if_pos h]; exact h1
  · rw [if_neg h]; exact h2
theorem ird_ok (s : List UInt8) : (ird s).1.ok := by
  have h1 := irdB_ok (openOf s).1
  have h2 := i0_ok
  unfold ird
  generalize irdB (openOf s).1 = r at *
  by_cases h : (openOf s).2 = 0
  · rw [if_pos h]; exact h1
  · rw [if_neg h]; exact h2

/-! ### What is made is read -/
theorem end0 (s : St) : s.end_ = 0 ↔ s.bad = false ∧ s.l = [] := by
  obtain ⟨l, b⟩ := s
  unfold St.end_
  cases b <;> cases l <;> simp
theorem szB_iff (l : List UInt8) : szB l = true ↔ l.length % 8 = 0 ∧ 8 ≤ l.length ∧ l.length ≤ 512 := by unfold szB; simp
theorem igB_sz {i : Im} (h : igB i = true) : i.l.length % 8 = 0 ∧ 8 ≤ i.l.length ∧ i.l.length ≤ 512 := by
  unfold igB at h
  rw [Bool.and_eq_true] at h
  exact (szB_iff _).1 h.2
theorem text_back (l k : List UInt8) (h : l.length ≤ 16384) : St.text ⟨le 2 l.length ++ (l ++ k), false⟩ = (l, ⟨k, false⟩) := by
  have h1 := num_back 2 l.length (l ++ k) (by decide) (by decide) (by omega)
  rw [show ((2 : Nat) : Int) = 2 from rfl] at h1
  unfold St.text
  rw [h1]
  dsimp only
  rw [if_neg (by omega)]
  unfold St.next
  dsimp only
  rw [if_pos ⟨Int.natCast_nonneg _, by rw [List.length_append]; omega⟩, Int.toNat_natCast, List.take_left, List.drop_left]
theorem irdS_body (i : Im) (hok : i.ok) (hl : i.l.length ≤ 16384) : irdS ⟨body15 i, false⟩ = (i, ⟨[], false⟩) := by
  obtain ⟨h1, h2, h3⟩ := hok
  have e : body15 i = le 8 i.L ++ (le 8 i.B ++ (le 2 i.l.length ++ (i.l ++ encT i.T))) := by simp [body15]
  have n1 := num_back 8 i.L (le 8 i.B ++ (le 2 i.l.length ++ (i.l ++ encT i.T))) (by decide) (by decide) h1
  have n2 := num_back 8 i.B (le 2 i.l.length ++ (i.l ++ encT i.T)) (by decide) (by decide) h2
  rw [show ((8 : Nat) : Int) = 8 from rfl] at n1 n2
  have n3 := text_back i.l (encT i.T) hl
  have n4 := rdT_back i.T h3 []
  have n5 := rdN_back i.T h3.2 [] 8 (by rw [h3.1]; exact Nat.le_refl _)
  rw [List.append_nil] at n4 n5
  have e5 : encT (i.T.drop 8) = [] := by rw [List.drop_of_length_le (by rw [h3.1]; exact Nat.le_refl _)]; rfl
  rw [e5, List.nil_append] at n5
  unfold irdS
  rw [e, n1]
  dsimp only
  rw [n2]
  dsimp only
  rw [n3]
  dsimp only
  rw [n4, n5]
theorem read_make_im {i : Im} (hok : i.ok) (h : igB i = true) : (imk i).2 = 0 ∧ ird (imk i).1 = (i, 0) := by
  have hs := igB_sz h
  have hb := irdS_body i hok (by omega)
  have e : imk i = (sealOf (body15 i), 0) := by unfold imk; rw [if_pos h]
  rw [e]
  refine ⟨rfl, ?_⟩
  unfold ird
  rw [open_seal]
  dsimp only
  rw [if_pos rfl]
  unfold irdB
  rw [hb]
  dsimp only
  rw [if_pos ⟨(end0 _).2 ⟨rfl, rfl⟩, h⟩]
theorem make_no {i : Im} (h : ¬ igB i = true) : imk i = ([], 2) := by unfold imk; rw [if_neg h]

/-! ### What is read was made so -/
theorem next_good {s : St} {n : Int} (h : (s.next n).2.bad = false) : s.bad = false ∧ 0 ≤ n ∧ ((s.next n).1.length : Int) = n ∧ s.l = (s.next n).1 ++ (s.next n).2.l := by
  unfold St.next at h ⊢
  by_cases hc : 0 ≤ n ∧ n ≤ s.l.length
  · rw [if_pos hc] at h ⊢
    exact ⟨h, hc.1, by rw [List.length_take]; omega, (List.take_append_drop _ _).symm⟩
  · rw [if_neg hc] at h
    cases h
theorem num_good {s : St} {k : Nat} (h1 : 1 ≤ k) (h8 : k ≤ 8) (h : (s.num k).2.bad = false) : s.bad = false ∧ s.l = le k (s.num k).1 ++ (s.num k).2.l := by
  have e : s.num k = (unle (s.next k).1, (s.next k).2) := by unfold St.num; rw [if_pos ⟨by omega, by omega⟩]
  rw [e] at h ⊢
  dsimp only at h ⊢
  obtain ⟨a, _, b, c⟩ := next_good h
  refine ⟨a, ?_⟩
  have hu := le_unle (s.next k).1
  rw [show (s.next k).1.length = k by omega] at hu
  rw [hu]
  exact c
theorem text_good {s : St} (h : s.text.2.bad = false) : s.bad = false ∧ s.l = le 2 s.text.1.length ++ (s.text.1 ++ s.text.2.l) := by
  have hn := num_good (s := s) (k := 2) (by decide) (by decide)
  rw [show ((2 : Nat) : Int) = 2 from rfl] at hn
  unfold St.text at h ⊢
  by_cases hc : 16384 < (s.num 2).1
  · rw [if_pos hc] at h; cases h
  · rw [if_neg hc] at h ⊢
    obtain ⟨a, _, b, c⟩ := next_good h
    obtain ⟨d, e⟩ := hn a
    refine ⟨d, ?_⟩
    rw [show ((s.num 2).2.next (s.num 2).1).1.length = (s.num 2).1 by omega, ← c]
    exact e
theorem rd1_good {s : St} (h : (rd1 s).2.bad = false) : s.bad = false ∧ s.l = (le 8 (rd1 s).1.1 ++ le 2 (rd1 s).1.2) ++ (rd1 s).2.l := by
  have h1 := num_good (s := s) (k := 8) (by decide) (by decide)
  have h2 := num_good (s := (s.num 8).2) (k := 2) (by decide) (by decide)
  rw [show ((8 : Nat) : Int) = 8 from rfl] at h1
  rw [show ((2 : Nat) : Int) = 2 from rfl] at h2
  unfold rd1 at h ⊢
  dsimp only at h ⊢
  obtain ⟨a2, b2⟩ := h2 h
  obtain ⟨a1, b1⟩ := h1 a2
  refine ⟨a1, ?_⟩
  have hlt : ((s.num 8).2.num 2).1 < 65536 := by
    have e : (s.num 8).2.num 2 = (unle ((s.num 8).2.next 2).1, ((s.num 8).2.next 2).2) := by unfold St.num; rw [if_pos ⟨by omega, by omega⟩]
    have hl := St.next_len (s.num 8).2 2
    have hu := unle_lt ((s.num 8).2.next 2).1
    rw [e]
    dsimp only
    rcases hl with hl | hl
    · refine Nat.lt_of_lt_of_le hu (Nat.pow_le_pow_right (by decide) (by omega : _ ≤ 2))
    · rw [hl]; decide
  rw [Nat.mod_eq_of_lt hlt, List.append_assoc, ← b2]
  exact b1
theorem rdN_good (s : St) : ∀ k, (rdN k s).2.bad = false → s.bad = false ∧ s.l = encT (rdN k s).1 ++ (rdN k s).2.l := by
  intro k
  induction k with
  | zero => intro h; exact ⟨h, by simp [rdN, encT]⟩
  | succ k ih =>
    intro h
    obtain ⟨a, b⟩ := rd1_good (s := (rdN k s).2) h
    obtain ⟨c, d⟩ := ih a
    refine ⟨c, ?_⟩
    have e : encT ((rdN k s).1 ++ [(rd1 (rdN k s).2).1]) = encT (rdN k s).1 ++ (le 8 (rd1 (rdN k s).2).1.1 ++ le 2 (rd1 (rdN k s).2).1.2) := by
      unfold encT
      rw [List.flatMap_append]
      simp
    show s.l = encT ((rdN k s).1 ++ [(rd1 (rdN k s).2).1]) ++ (rd1 (rdN k s).2).2.l
    rw [e, List.append_assoc, ← b]
    exact d
theorem irdS_good {b : List UInt8} (h : (irdS ⟨b, false⟩).2.end_ = 0) : body15 (irdS ⟨b, false⟩).1 = b := by
  have g1 := num_good (s := ⟨b, false⟩) (k := 8) (by decide) (by decide)
  have g2 := num_good (s := (St.num ⟨b, false⟩ 8).2) (k := 8) (by decide) (by decide)
  have g3 := text_good (s := ((St.num ⟨b, false⟩ 8).2.num 8).2)
  have g4 := rdN_good ((St.num ⟨b, false⟩ 8).2.num 8).2.text.2 8
  rw [show ((8 : Nat) : Int) = 8 from rfl] at g1 g2
  unfold irdS at h ⊢
  unfold rdT
  generalize hA : St.num ⟨b, false⟩ 8 = ra at *
  obtain ⟨L, s1⟩ := ra
  dsimp only at *
  generalize hB : s1.num 8 = rb at *
  obtain ⟨B, s2⟩ := rb
  dsimp only at *
  generalize hC : s2.text = rc at *
  obtain ⟨t, s3⟩ := rc
  dsimp only at *
  generalize hE : rdN 8 s3 = rd at *
  obtain ⟨T2, s4⟩ := rd
  dsimp only at *
  obtain ⟨hb, hl⟩ := (end0 s4).1 h
  rw [hb] at g4
  rw [hl, List.append_nil] at g4
  obtain ⟨b4, e4⟩ := g4 rfl
  obtain ⟨b3, e3⟩ := g3 b4
  obtain ⟨b2, e2⟩ := g2 b3
  obtain ⟨b1, e1⟩ := g1 b2
  unfold body15
  dsimp only
  rw [hb, e1, e2, e3, e4, if_neg (by decide)]
  simp only [List.append_assoc]
theorem open_good {s : List UInt8} (h : (openOf s).2 = 0) : sealOf (openOf s).1 = s := by
  unfold openOf at h ⊢
  by_cases h4 : s.length < 4
  · rw [if_pos h4] at h; cases h
  · rw [if_neg h4] at h ⊢
    by_cases hc : unle (s.drop (s.length - 4)) = more 0 (s.take (s.length - 4))
    · rw [if_pos hc]
      exact (sealed_iff s (by omega)).2 hc
    · rw [if_neg hc] at h; cases h
theorem make_read {s : List UInt8} (h : (ird s).2 = 0) : imk (ird s).1 = (s, 0) := by
  unfold ird at h ⊢
  by_cases ho : (openOf s).2 = 0
  · rw [if_pos ho] at h ⊢
    unfold irdB at h ⊢
    by_cases hc : (irdS ⟨(openOf s).1, false⟩).2.end_ = 0 ∧ igB (irdS ⟨(openOf s).1, false⟩).1 = true
    · rw [if_pos hc]
      dsimp only
      unfold imk
      rw [if_pos hc.2, irdS_good hc.1, open_good ho]
    · rw [if_neg hc] at h; cases h
  · rw [if_neg ho] at h
    exact absurd h ho
theorem openOf_len_im (s : List UInt8) : (openOf s).1.length ≤ s.length := by
  unfold openOf
  split
  · exact Nat.zero_le _
  · split
    · rw [List.length_take]; exact Nat.min_le_right _ _
    · exact Nat.zero_le _
theorem body15_len (i : Im) (h : i.T.length = 8) : (body15 i).length = 98 + i.l.length := by
  simp only [body15, List.length_append, le_len, encT_len, h]
  omega
end Go.Proofs.YtpalmobmabkadaaGreatDoor
