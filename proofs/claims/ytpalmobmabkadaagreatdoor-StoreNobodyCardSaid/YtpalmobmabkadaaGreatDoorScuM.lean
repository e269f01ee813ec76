/- A store on a device beside rows X; it is opened where nothing was saved; where it is not opened. Blocks as values; a block is read. Blocks are read, all that a span names. Data is cut into blocks. -/
import Derived.Test.YtpalmobmabkadaaGreatDoorStvM
import Derived.Test.YtpalmobmabkadaaGreatDoorStandsM
import Derived.Test.YtpalmobmabkadaaGreatDoorSpanM
namespace Go.Proofs.YtpalmobmabkadaaGreatDoor
open Go.RowKit
set_option maxRecDepth 20000

/-- A store on a device beside rows X: its row S, its maps bn and bs, its twin T. -/
structure Slx (X : Nat → Prop) (w W : World) (B g T S bn bs M kn ks : Nat) (d : Dv) (t : Tv) (v : Sv) (fn fs : SaysS) : Prop where
  tlx : Tlx (fun i => X i ∨ i = S ∨ i = bn ∨ i = bs) w W B g T M d t
  row : Srow W S (some ⟨g, 0, none⟩) (some ⟨T, 0, none⟩) (some bn) (some bs) v
  now : St8 W bn kn fn
  saved : St8 W bs ks fs
  new : w.heap.size ≤ S ∧ w.heap.size ≤ bn ∧ w.heap.size ≤ bs
  apart : S ≠ bn ∧ S ≠ bs ∧ bn ≠ bs ∧ ¬ X S ∧ ¬ X bn ∧ ¬ X bs
theorem Tlx.xlt {X : Nat → Prop} {w W : World} {B g T M : Nat} {d : Dv} {t : Tv} (h : Tlx X w W B g T M d t) (i : Nat) (hi : X i) : i < W.heap.size := by obtain ⟨_, _, _, _, _, _, h6, _⟩ := h; exact h6 i hi
theorem Dlx.xlt {X : Nat → Prop} {w W : World} {B g M : Nat} {d : Dv} (h : Dlx X w W B g M d) (i : Nat) (hi : X i) : i < W.heap.size := by obtain ⟨_, _, _, h6, _⟩ := h; exact h6 i hi

theorem dsectors_any {w : World} {g n : Nat} (h : w.cell? ⟨g, 0, none⟩ = some (.int .i64 (n : Int))) : Calls Tryz.prog 35 #[.pointer (some ⟨g, 0, none⟩)] w fun e w' => e = .returned (.int .i64 (n : Int)) ∧ w = w' := by
  go_enter Tryz.func35, Tryz.ntmps35
  go_wp2
  go_ret
  exact ⟨rfl, rfl⟩
theorem Dlx.c0 {X : Nat → Prop} {w W : World} {B g M : Nat} {d : Dv} (h : Dlx X w W B g M d) : W.cell? ⟨g, 0, none⟩ = some (.int .i64 (d.n : Int)) := by
  obtain ⟨_, ⟨_, _, _, _, h, _⟩, _⟩ := h
  exact h.c0

section
variable {P : Program} {w : World} {ops : Array Oper} {rest : List Oper} {o : Oper} {a : Act} {Q : Exit → Act → World → Prop}
theorem wpL_bldv (hw : Region.wanted o (yielded ops a.tmps) = true) (t : TypeId) (ps : Array (Nat × Operand)) (vs : Array (Nat × Value)) (ho : o.op = .build t ps) (hv : (ps.map fun (i, x) => (i, a.eval x)) = vs) (v : Value) (hrun : ∀ w, (Instr.build t vs).run P w = .ok v w) (h : wpList P ops Q rest (a.put o.dst v) w) : wpList P ops Q (o :: rest) a w :=
  wpL_val hw v (by
    have := hrun w
    rw [← hv] at this
    simp only [execOp, ho, Sem.run_bind, this, Result.andThen_ok, Sem.run_pure]) h
end
def Sv.fresh (base : Int) (n : Nat) : Sv := ⟨base + 2 * (sSize n : Int), n, 0, 0, T0, 0⟩
set_option maxHeartbeats 2000000 in
theorem build_store (g T : Addr) (x : Int) (n m : Nat) (w : World) : (Instr.build 72 #[(0, .pointer (some g)), (1, .pointer (some T)), (2, .int .i64 x), (3, .int .u32 (n : Int)), (6, .map (some m))]).run Tryz.prog w =
    .ok (.agg (scells (some g) (some T) (some m) none ⟨x, n, 0, 0, T0, 0⟩).toArray) w := run_build w _ _ _ (by kernel_rfl)

set_option maxHeartbeats 4000000 in
theorem store_fresh {X : Nat → Prop} {w W : World} {B g M : Nat} {d : Dv} (h : Dlx X w W B g M d) (hd : d.down = false) (base : Int) (n : Nat) (h1 : 1 ≤ n) (h2 : n ≤ 64) (hb : 0 ≤ base) (hin : base + sNeed n ≤ d.n)
    (hst : (openTv base (sSize n) (d.bytes base (2 * sSize n))).number = 0) :
    Calls Tryz.prog 10 #[.pointer (some ⟨g, 0, none⟩), .int .i64 base, .int .u32 (n : Int)] W fun e w' => ∃ T S bn bs, e = .returned (.tuple #[.pointer (some ⟨S, 0, none⟩), .int .i64 0]) ∧
      Slx X w w' B g T S bn bs M 0 0 d (openTv base (sSize n) (d.bytes base (2 * sSize n))) (Sv.fresh base n) (fun _ => none) (fun _ => none) ∧ Below W.heap.size W w' := by
  have hm := fun W => may_any n W
  rw [decide_eq_true (⟨h1, h2⟩ : 1 ≤ n ∧ n ≤ 64)] at hm
  have hz := sSize_le h2
  have hneed : sNeed n = 2 * sSize n + (2 * n + 8) := rfl
  have hss := fun W => ssectors_any n W
  rw [if_pos (⟨h1, h2⟩ : 1 ≤ n ∧ n ≤ 64)] at hss
  have hdn := h.ok.n
  have HM := Lib.hid hm
  have HSZ := Lib.hid (fun W => ssize_any n W h2)
  have HA := Lib.hid (fun W => ahead_any n W h2)
  have HSS := Lib.hid hss
  have HO := Lib.hid (dlx_open h hd base (sSize n) (by omega) (by omega) hb (by omega))
  have hfr : Sv.fresh base n = ⟨base + ((2 * sSize n : Nat) : Int), n, 0, 0, T0, 0⟩ := by unfold Sv.fresh; congr 1
  rw [hfr]
  generalize openTv base (sSize n) (d.bytes base (2 * sSize n)) = t at *
  obtain ⟨z, hz0⟩ : ∃ z, z = sSize n := ⟨_, rfl⟩
  obtain ⟨z2, hz2⟩ : ∃ z2, z2 = 2 * sSize n := ⟨_, rfl⟩
  rw [← hz2] at HA ⊢
  rw [← hz0] at HSZ HO
  generalize sNeed n = need at *
  have q1 : decide ((d.n : Int) - (need : Int) < base) = false := by simp; omega
  have b1 : base ≤ 65536 := by omega
  have b2 : z2 ≤ 16 := by omega
  have b3 : need ≤ 65536 := by omega
  have q1b : ¬ (d.n : Int) - (need : Int) < base := by omega
  have w1 : IntKind.i64.wrap ((d.n : Int) - (need : Int)) = (d.n : Int) - (need : Int) := by simp [IntKind.wrap, IntKind.signed, IntKind.bits]; omega
  have HX := Lib.hid (fun i hi => h.xlt i hi)
  have hmm := @run_makeMap Tryz.prog
  clear hm hss hfr hneed hz0 hz2 hz hin h
  go_enter Tryz.func10, Tryz.ntmps10
  go_wp2_with (first
    | (go_at_call 32; refine (HM.out _).mono ?_; rintro e w1 ⟨rfl, rfl⟩)
    | (go_at_call 34; refine (HSZ.out _).mono ?_; rintro e w1 ⟨rfl, rfl⟩)
    | (go_at_call 33; refine (HO.out).mono ?_; rintro e W1 ⟨T, rfl, hT1, hb1⟩
       have HT1 := Lib.hid hT1
       have HB1 := Lib.hid hb1
       have hc0 := hT1.dlx.c0
       have HDS := Lib.hid (dsectors_any hc0)
       clear hT1 hb1 hc0 HO)
    | (go_at_call 35; refine (HDS.out).mono ?_; rintro e w1 ⟨rfl, rfl⟩)
    | (go_at_call 22; refine (HSS.out _).mono ?_; rintro e w1 ⟨rfl, rfl⟩)
    | (go_at_call 36; refine (HA.out _).mono ?_; rintro e w1 ⟨rfl, rfl⟩)
    | (refine wpL_bldv (by rfl) _ _ #[(0, .pointer (some ⟨g, 0, none⟩)), (1, .pointer (some ⟨T, 0, none⟩)), (2, .int .i64 (base + (z2 : Int))), (3, .int .u32 (n : Int)), (6, .map (some W1.heap.size))] rfl (by simp only [List.map_toArray, List.map_cons, List.map_nil]; rfl) _ (build_store ⟨g, 0, none⟩ ⟨T, 0, none⟩ (base + (z2 : Int)) n W1.heap.size) ?_)
    | (refine wpL_rbox (cs := scells (some ⟨g, 0, none⟩) (some ⟨T, 0, none⟩) (some W1.heap.size) none ⟨base + (z2 : Int), n, 0, 0, T0, 0⟩) rfl (.tmp 42) rfl rfl ?_; intro W3 S hN; obtain ⟨hS, hr3, hl3, hz3⟩ := hN)
    | fail)
  have hsr : Srow W3 S (some ⟨g, 0, none⟩) (some ⟨T, 0, none⟩) (some W1.heap.size) none ⟨base + (z2 : Int), n, 0, 0, T0, 0⟩ := ⟨hr3.out, rfl⟩
  have hb3 : Below W1.heap.size W1 W3 := (below1 W1 (.map #[] 0)).trans (hl3.mono (by simp))
  have hm3 : St8 W3 W1.heap.size 0 (fun _ => none) := (mapS_made W1).same (hl3.block _ (by simp))
  have hS1 : W1.heap.size < S := by have := hS.out; simp at this; omega
  have HSR := Lib.hid hsr
  have HM3 := Lib.hid hm3
  have HB3 := Lib.hid hb3
  have hw1 : W3.heap.size = S + 1 := hz3.out
  have HW3 := Lib.hid hw1
  have HL := Lib.hid (twlast_none (HT1.out.tw.below HB3.out) hst)
  clear hsr hb3 hm3 hS hr3 hl3 hz3 hmm hw1 HDS HSS HA HM HSZ
  go_wp2_with (first
    | (go_at_call 37; refine (HL.out).mono ?_; rintro e w4 ⟨rfl, rfl⟩)
    | (go_at_call 39; refine (keep16_any HSR.out HM3.out).mono ?_; rintro e W5 ⟨rfl, bs, hr5, hm5, hbs, hg5⟩)
    | fail)
  go_ret2
  have hb5 : Below W1.heap.size W1 W5 := HB3.out.grown hg5 HB3.out.size (fun k e => by cases e; omega)
  have hmn := hm5.lt
  have hrl := hr5.lt
  have hW3 := HW3.out
  have h1w : w.heap.size ≤ W1.heap.size := HT1.out.bel.size
  have hxs : ∀ i, X i → i < W1.heap.size := fun i hi => HT1.out.xlt i hi
  have hnow : St8 W5 W1.heap.size 0 (fun _ => none) := HM3.out.kept hg5 (fun e => by have := Option.some.inj e; omega)
  refine ⟨T, S, W1.heap.size, bs, rfl, ⟨HT1.out.more hb5 (fun i hi => ?_), hr5, hnow, hm5, ⟨by omega, h1w, by omega⟩, ⟨by omega, by omega, by omega, fun hx => by have := hxs S hx; omega, fun hx => by have := hxs _ hx; omega, fun hx => by have := hxs bs hx; omega⟩⟩, HB1.out.trans (hb5.mono HB1.out.size)⟩
  rcases hi with hx | rfl | rfl | rfl
  · exact ⟨.inl hx, by have := hxs i hx; have := hb5.size; omega⟩
  · exact ⟨.inr (by omega), hrl⟩
  · exact ⟨.inr (by omega), by have := hb5.size; omega⟩
  · exact ⟨.inr (by omega), hmn⟩

end Go.Proofs.YtpalmobmabkadaaGreatDoor

namespace Go.Proofs.YtpalmobmabkadaaGreatDoor
open Go.RowKit
set_option maxRecDepth 20000

def blkv (l : List UInt8) : Value := .agg (u8s l).toArray
def Zb : List UInt8 := List.replicate 8 0
theorem size_blk : (Tryz.prog.info? 116).map (·.size) = some 8 := by kernel_rfl
theorem zero_blk (w : World) : (zeroValue 116).run Tryz.prog w = .ok (blkv Zb) w := by kernel_rfl
section
variable {w : World} {ops : Array Oper} {rest : List Oper} {o : Oper} {a : Act} {Q : Exit → Act → World → Prop}
theorem wpL_bnew (hgd : o.guard = none) (ho : o.op = .alloc 116)
    (hk : ∀ (W : World) (b : Nat), NewR w 116 (u8s Zb) W b → wpList Tryz.prog ops Q rest (a.put o.dst (.pointer (some ⟨b, 0, none⟩))) W) : wpList Tryz.prog ops Q (o :: rest) a w := by
  refine wpList_plain hgd fun K hK => ?_
  have hr : (Instr.alloc 116 true (.tuple #[])).run Tryz.prog w = .ok (.pointer (some ⟨w.heap.size, 0, none⟩)) (w.alloc (.cells (u8s Zb).toArray 116)) := by
    have h0 : (newVar 116 (blkv Zb)).run Tryz.prog w = .ok ⟨w.heap.size, 0, none⟩ (w.alloc (.cells (u8s Zb).toArray 116)) := run_newVar 116 (blkv Zb)
    simp only [Instr.alloc, Sem.run_bind, zero_blk, Result.andThen_ok, h0, Sem.run_pure]
  unfold Oper.wp
  simp only [execOp, ho, Sem.run_bind, hr, Result.andThen_ok, Sem.run_pure]
  exact hK _ _ (hk _ _ (newR w _ _))
theorem loads_blk {b : Nat} {e : TypeId} {fr : Nat × Nat} {l : List UInt8} (hr : w.heap[b]? = some (.cells (u8s l).toArray e fr)) (hl : l.length = 8) : (Instr.loadAt 116 (.pointer (some ⟨b, 0, none⟩))).run Tryz.prog w = .ok (blkv l) w := by
  simp only [Instr.loadAt, Instr.sureAddr, Sem.run_bind, Sem.run_pure, Result.andThen_ok]
  exact run_loadVar_row w b e _ _ fr _ hr Tryz.underlying116 rfl (by rw [size_blk]; simp [u8s_len, hl])
theorem wpL_bload (hw : Region.wanted o (yielded ops a.tmps) = true) (x : Operand) (ho : o.op = .load 116 x) {b : Nat} {e : TypeId} {fr : Nat × Nat} {l : List UInt8} (hx : a.eval x = .pointer (some ⟨b, 0, none⟩)) (hr : w.heap[b]? = some (.cells (u8s l).toArray e fr)) (hl : l.length = 8)
    (hk : wpList Tryz.prog ops Q rest (a.put o.dst (blkv l)) w) : wpList Tryz.prog ops Q (o :: rest) a w :=
  wpL_val hw _ (by have hrun := loads_blk hr hl; simp only [execOp, ho, hx, Sem.run_bind, hrun, Result.andThen_ok, Sem.run_pure]) hk
theorem wpL_bstore (hgd : o.guard = none) (x y : Operand) (ho : o.op = .store 116 x y) {b : Nat} {e : TypeId} {l k : List UInt8} (hx : a.eval x = .pointer (some ⟨b, 0, none⟩)) (hy : a.eval y = blkv k) (hr : w.heap[b]? = some (.cells (u8s l).toArray e (0, 0))) (hl : l.length = 8) (hkl : k.length = 8)
    (hk : ∀ W : World, Hid (W.heap[b]? = some (.cells (u8s k).toArray e (0, 0))) → w.grownBy W (some b) → Hid (W.heap.size = w.heap.size) → wpList Tryz.prog ops Q rest (a.put o.dst undef) W) : wpList Tryz.prog ops Q (o :: rest) a w := by
  refine wpList_plain hgd fun K hK => ?_
  have hrun : (Instr.storeAt 116 (.pointer (some ⟨b, 0, none⟩)) (blkv k)).run Tryz.prog w = .ok () (w.setRow b (u8s k).toArray) := by
    simp only [Instr.storeAt, Instr.sureAddr, Sem.run_bind, Sem.run_pure, Result.andThen_ok]
    exact run_storeVar_row w b e _ _ _ hr (by rw [size_blk]; simp [u8s_len, hkl]) (by simp [u8s_len, hl, hkl]) (by
      rw [Array.all_eq_true_iff_forall_mem]
      intro x hx
      exact u8s_one k x (by simpa using hx))
  unfold Oper.wp
  simp only [execOp, ho, hx, hy, Sem.run_bind, hrun, Result.andThen_ok, Sem.run_pure]
  exact hK _ _ (hk _ (Lib.hid (setRow_heap w b _ _ e _ hr)) ⟨rfl, rfl, rfl, by simp, fun k _ hk => setRow_other w b k _ (fun e => hk (by rw [e]))⟩ (Lib.hid (by simp)))
end
/-- What a block reads as, on a device. -/
def Dv.blk (d : Dv) (first : Int) (f : SaysS) (n : Int) : List UInt8 := match f n with
  | some at_ => (d.seen (first + at_)).take 8
  | none => Zb
theorem zb_len : Zb.length = 8 := rfl
theorem Dv.blk_len {d : Dv} (h : d.Ok) (first : Int) (f : SaysS) (n : Int) : (d.blk first f n).length = 8 := by
  unfold Dv.blk
  cases f n with
  | none => rfl
  | some x => show ((d.seen (first + x)).take 8).length = 8; rw [List.length_take, Dv.seen_len h]; rfl
def Reaches (d : Dv) (first : Int) (f : SaysS) : Prop := ∀ n x, f n = some x → 0 ≤ first + x ∧ first + x + 1 ≤ d.n ∧ 0 ≤ x ∧ x ≤ 65536

theorem Dv.bytes_one (d : Dv) (x : Int) : d.bytes x 1 = d.seen x := by
  simp only [Dv.bytes]; simp
theorem zero_int (w : World) : (zeroValue 3).run Tryz.prog w = .ok (.int .i64 0) w := by kernel_rfl
section
variable {P : Program} {w : World} {ops : Array Oper} {rest : List Oper} {o : Oper} {a : Act} {Q : Exit → Act → World → Prop}
theorem wpL_slook (hgd : o.guard = none) (x y : Operand) (ok : Bool) {t : TypeId} (ho : o.op = .lookup t x y ok) {m k v : Value} (hx : a.eval x = m) (hy : a.eval y = k) (hrun : (Instr.lookup t m k ok).run P w = .ok v w) (h : wpList P ops Q rest (a.put o.dst v) w) : wpList P ops Q (o :: rest) a w := by
  refine wpList_plain hgd fun K hK => ?_
  unfold Oper.wp
  simp only [execOp, ho, hx, hy, Sem.run_bind, hrun, Result.andThen_ok, Sem.run_pure]
  exact hK _ _ h
end
/-- What the device's read yields in all its ways: its bytes, copied over noughts, are r. -/
def RdAs (w : World) (g : Nat) (x : Int) (k er : Int) (r : List UInt8) : Prop := Calls Tryz.prog 68 #[.pointer (some ⟨g, 0, none⟩), .int .i64 x, .int .i64 k] w fun e w' => ∃ A m c l, e = .returned (.tuple #[.slice A m c, .int .i64 er]) ∧ Rd w' w'.heap.size 1 A m c (u8s l) ∧ Below w.heap.size w w' ∧ (u8s (l.take (min m 8)) ++ ((u8s Zb).toArray).toList.drop (min m 8)) = u8s r
set_option maxHeartbeats 4000000 in
theorem sread_core {W0 : World} {g T S bn bs kn : Nat} {v : Sv} {fn : SaysS} (hrow : Srow W0 S (some ⟨g, 0, none⟩) (some ⟨T, 0, none⟩) (some bn) (some bs) v) (hnow : St8 W0 bn kn fn) (n : Nat) (hn : n < 4294967296) (x : Int) (b : Bool) (e1 : (fn n).getD 0 = x) (e2 : (fn n).isSome = b) (h3 : 0 ≤ x) (h4 : x ≤ 65536) (hf1 : -65536 ≤ v.first) (hf2 : v.first ≤ 65536)
    (er : Int) (s8 : List UInt8) (hs8 : s8.length = 8) (hrd : ∀ W, Below W0.heap.size W0 W → RdAs W g (v.first + x) (if b then 1 else 0) er s8) :
    Calls Tryz.prog 58 #[.pointer (some ⟨S, 0, none⟩), .int .u32 (n : Int)] W0 fun e w' => e = .returned (.tuple #[blkv s8, .int .i64 er]) ∧ Below W0.heap.size W0 w' := by
  have hkey : KeyS (n : Int) := ⟨by omega, by omega⟩
  have HRD := Lib.hid hrd
  have HR := Lib.hid hrow
  have HM := Lib.hid hnow
  clear hrd hrow hnow
  cases b
  ·
    go_enter Tryz.func58, Tryz.ntmps58
    go_wp2_with (first
      | (refine wpL_bnew (o := ⟨some 4, _, _, _, _, _⟩) rfl rfl ?_; intro W1 b4 hN; obtain ⟨hb4, hr4, hl4, hz4⟩ := hN
         have hb4w : W0.heap.size ≤ b4 := by first | omega | (have := hb4.out; omega) | (have := hb4; simp at this; omega)
         have R1 := Lib.hid (HR.out.below hl4)
         have M1 := Lib.hid (HM.out.kept (only_of_below hl4 none) (fun e => by cases e))
         have c22 := R1.out.c22
         have c0 := R1.out.c0
         have c2 := R1.out.c2
         have HLK := Lib.hid ((M1.out.lookOk Tryz.underlying23 Tryz.underlying70 (zero_int W1) ⟨by decide, by decide⟩ (n : Int) hkey).1)
         clear hb4)
      | (refine wpL_slook rfl (.tmp 16) (.tmp 17) true rfl rfl rfl HLK.out ?_)
      | (refine wpL_bnew (o := ⟨some 9, _, _, _, _, _⟩) rfl rfl ?_; intro W b9 hN; obtain ⟨hb9, hr9, hl9, hz9⟩ := hN
         have HR2 := Lib.hid (R1.out.below hl9)
         have R4 := Lib.hid (row_below hr4.out hl9)
         have HB := Lib.hid (hl4.trans (hl9.mono hl4.size))
         have hSW : S < W.heap.size := HR2.out.lt
         have h49 : b4 ≠ b9 := by have := (Array.getElem?_eq_some_iff.1 hr4.out).1; have := hb9.out; omega
         have hW04 : W0.heap.size ≤ b4 := hb4w
         have hW09 : W0.heap.size ≤ b9 := by have := hb9.out; have := hl4.size; omega)
      | fail)
    clear hr4 hl4 hz4 hl9 hz9 R1 M1 HLK c22 c0 c2 HR HM
    refine wp_low W.heap.size [([0, 1, 2, 3, 4, 5, 6, 7, 8, 9, 10], 11)] [12, 13, 14, 15, 16] (by kernel_rfl) (by kernel_rfl) (fun d _ _ _ _ h => by cases d <;> exact h) (Nat.le_refl _) fun wd hbd => ?_
    intro q hq
    have d0 := fun z => kept (hq z) HR2.out.c0 hSW
    have d2 := fun z => kept (hq z) HR2.out.c2 hSW
    simp only [pickI, Option.toList_some, List.cons_append, List.nil_append, List.getElem?_toArray, List.getElem?_cons_succ, List.getElem?_cons_zero]
    try go_frame
    go_big_quiet_step (fail)
    go_big_quiet_step (fail)
    go_big_quiet_step (fail)
    go_big_quiet_step (fail)
    go_big_quiet_step (fail)
    go_big_quiet_step (fail)
    go_big_quiet_step (fail)
    go_big_quiet_step (fail)
    go_big_quiet_step (fail)
    go_big_quiet_step (fail)
    go_big_quiet_step (fail)
    refine wpQuiet_nil ?_
    clear hq q d0 d2
    refine seg_op (by simp only [List.getElem?_toArray, List.getElem?_cons_succ, List.getElem?_cons_zero]; rfl) fun K hK => ?_
    go_simp
    refine (HRD.out _ (HB.out.trans (hbd.mono HB.out.size))).mono ?_
    rintro e v0 ⟨A1, m1, c1, l1, rfl, x1, bv0, e6⟩
    have X1 := Lib.hid x1
    have E6 := Lib.hid e6
    have zv0 := hbd.trans (bv0.mono hbd.size)
    clear x1 e6 bv0
    refine hK.out _ _ (seg_keep zv0 ?_)
    clear hK K
    intro q hq
    have d0 := fun z => kept (hq z) HR2.out.c0 hSW
    have d2 := fun z => kept (hq z) HR2.out.c2 hSW
    simp only [pickI, Option.toList_some, List.cons_append, List.nil_append, List.getElem?_toArray, List.getElem?_cons_succ, List.getElem?_cons_zero]
    try go_frame
    go_big_quiet_step (fail)
    go_big_quiet_step (fail)
    go_big_quiet_step (fail)
    go_big_quiet_step (fail)
    go_big_quiet_step (fail)
    refine wpQuiet_nil ?_
    clear hq q d0 d2
    have K4 := Lib.hid (below_row zv0 R4.out (Array.getElem?_eq_some_iff.1 R4.out).1)
    have K9 := Lib.hid (below_row zv0 hr9.out (Array.getElem?_eq_some_iff.1 hr9.out).1)
    have HB2 := Lib.hid (HB.out.trans (zv0.mono HB.out.size))
    clear zv0 R4 hr9 HB HR2 hbd
    go_wp2_with (first
      | (refine wpL_cpy rfl (.tmp 37) (.tmp 38) rfl rfl rfl K9.out X1.out (by first | decide | simp [u8s_len, zb_len] | (simp [u8s_len]; decide)) ?_; intro W6 hr6 hg6 hz6
         rw [E6.out] at hr6
         have K6 := Lib.hid hr6
         have K46 := Lib.hid (row_far K4.out hg6 (fun e => h49 (Option.some.inj e)))
         have HB6 := Lib.hid (HB2.out.grown hg6 HB2.out.size (fun k e => by cases e; exact hW09))
         clear hr6 hg6 hz6 K4 K9)
      | (refine wpL_bload rfl (.tmp 9) rfl rfl K6.out hs8 ?_)
      | (refine wpL_bstore rfl (.tmp 4) (.tmp 40) rfl rfl rfl K46.out rfl hs8 ?_; intro W7 hr7 hg7 hz7
         have K7 := hr7.out
         have HB7 := Lib.hid (HB6.out.grown hg7 HB6.out.size (fun k e => by cases e; exact hW04))
         clear hr7)
      | (refine wpL_bload rfl (.tmp 4) rfl rfl K7 hs8 ?_)
      | fail)
    refine bodyPost_ret (results_cell_tmp (fn := Tryz.f58) rfl _ b4 116 _ (0, 0) _ rfl K7 Tryz.underlying116 rfl (by rw [size_blk]; simp [u8s_len, hs8])) rfl ⟨rfl, HB7.out⟩
  ·
    go_enter Tryz.func58, Tryz.ntmps58
    go_wp2_with (first
      | (refine wpL_bnew (o := ⟨some 4, _, _, _, _, _⟩) rfl rfl ?_; intro W1 b4 hN; obtain ⟨hb4, hr4, hl4, hz4⟩ := hN
         have hb4w : W0.heap.size ≤ b4 := by first | omega | (have := hb4.out; omega) | (have := hb4; simp at this; omega)
         have R1 := Lib.hid (HR.out.below hl4)
         have M1 := Lib.hid (HM.out.kept (only_of_below hl4 none) (fun e => by cases e))
         have c22 := R1.out.c22
         have c0 := R1.out.c0
         have c2 := R1.out.c2
         have HLK := Lib.hid ((M1.out.lookOk Tryz.underlying23 Tryz.underlying70 (zero_int W1) ⟨by decide, by decide⟩ (n : Int) hkey).1)
         clear hb4)
      | (refine wpL_slook rfl (.tmp 16) (.tmp 17) true rfl rfl rfl HLK.out ?_)
      | (refine wpL_bnew (o := ⟨some 9, _, _, _, _, _⟩) rfl rfl ?_; intro W b9 hN; obtain ⟨hb9, hr9, hl9, hz9⟩ := hN
         have HR2 := Lib.hid (R1.out.below hl9)
         have R4 := Lib.hid (row_below hr4.out hl9)
         have HB := Lib.hid (hl4.trans (hl9.mono hl4.size))
         have hSW : S < W.heap.size := HR2.out.lt
         have h49 : b4 ≠ b9 := by have := (Array.getElem?_eq_some_iff.1 hr4.out).1; have := hb9.out; omega
         have hW04 : W0.heap.size ≤ b4 := hb4w
         have hW09 : W0.heap.size ≤ b9 := by have := hb9.out; have := hl4.size; omega)
      | fail)
    clear hr4 hl4 hz4 hl9 hz9 R1 M1 HLK c22 c0 c2 HR HM
    refine wp_low W.heap.size [([0, 1, 2, 3, 4, 5, 6, 7, 8, 9, 10], 11)] [12, 13, 14, 15, 16] (by kernel_rfl) (by kernel_rfl) (fun d _ _ _ _ h => by cases d <;> exact h) (Nat.le_refl _) fun wd hbd => ?_
    intro q hq
    have d0 := fun z => kept (hq z) HR2.out.c0 hSW
    have d2 := fun z => kept (hq z) HR2.out.c2 hSW
    simp only [pickI, Option.toList_some, List.cons_append, List.nil_append, List.getElem?_toArray, List.getElem?_cons_succ, List.getElem?_cons_zero]
    try go_frame
    go_big_quiet_step (fail)
    go_big_quiet_step (fail)
    go_big_quiet_step (fail)
    go_big_quiet_step (fail)
    go_big_quiet_step (fail)
    go_big_quiet_step (fail)
    go_big_quiet_step (fail)
    go_big_quiet_step (fail)
    go_big_quiet_step (fail)
    go_big_quiet_step (fail)
    go_big_quiet_step (fail)
    refine wpQuiet_nil ?_
    clear hq q d0 d2
    refine seg_op (by simp only [List.getElem?_toArray, List.getElem?_cons_succ, List.getElem?_cons_zero]; rfl) fun K hK => ?_
    go_simp
    refine (HRD.out _ (HB.out.trans (hbd.mono HB.out.size))).mono ?_
    rintro e v0 ⟨A1, m1, c1, l1, rfl, x1, bv0, e6⟩
    have X1 := Lib.hid x1
    have E6 := Lib.hid e6
    have zv0 := hbd.trans (bv0.mono hbd.size)
    clear x1 e6 bv0
    refine hK.out _ _ (seg_keep zv0 ?_)
    clear hK K
    intro q hq
    have d0 := fun z => kept (hq z) HR2.out.c0 hSW
    have d2 := fun z => kept (hq z) HR2.out.c2 hSW
    simp only [pickI, Option.toList_some, List.cons_append, List.nil_append, List.getElem?_toArray, List.getElem?_cons_succ, List.getElem?_cons_zero]
    try go_frame
    go_big_quiet_step (fail)
    go_big_quiet_step (fail)
    go_big_quiet_step (fail)
    go_big_quiet_step (fail)
    go_big_quiet_step (fail)
    refine wpQuiet_nil ?_
    clear hq q d0 d2
    have K4 := Lib.hid (below_row zv0 R4.out (Array.getElem?_eq_some_iff.1 R4.out).1)
    have K9 := Lib.hid (below_row zv0 hr9.out (Array.getElem?_eq_some_iff.1 hr9.out).1)
    have HB2 := Lib.hid (HB.out.trans (zv0.mono HB.out.size))
    clear zv0 R4 hr9 HB HR2 hbd
    go_wp2_with (first
      | (refine wpL_cpy rfl (.tmp 37) (.tmp 38) rfl rfl rfl K9.out X1.out (by first | decide | simp [u8s_len, zb_len] | (simp [u8s_len]; decide)) ?_; intro W6 hr6 hg6 hz6
         rw [E6.out] at hr6
         have K6 := Lib.hid hr6
         have K46 := Lib.hid (row_far K4.out hg6 (fun e => h49 (Option.some.inj e)))
         have HB6 := Lib.hid (HB2.out.grown hg6 HB2.out.size (fun k e => by cases e; exact hW09))
         clear hr6 hg6 hz6 K4 K9)
      | (refine wpL_bload rfl (.tmp 9) rfl rfl K6.out hs8 ?_)
      | (refine wpL_bstore rfl (.tmp 4) (.tmp 40) rfl rfl rfl K46.out rfl hs8 ?_; intro W7 hr7 hg7 hz7
         have K7 := hr7.out
         have HB7 := Lib.hid (HB6.out.grown hg7 HB6.out.size (fun k e => by cases e; exact hW04))
         clear hr7)
      | (refine wpL_bload rfl (.tmp 4) rfl rfl K7 hs8 ?_)
      | fail)
    refine bodyPost_ret (results_cell_tmp (fn := Tryz.f58) rfl _ b4 116 _ (0, 0) _ rfl K7 Tryz.underlying116 rfl (by rw [size_blk]; simp [u8s_len, hs8])) rfl ⟨rfl, HB7.out⟩

/-- A block that stands is read. -/
theorem sread_some {X : Nat → Prop} {w W0 : World} {B g T S bn bs M kn ks : Nat} {d : Dv} {t : Tv} {v : Sv} {fn fs : SaysS} (h : Slx X w W0 B g T S bn bs M kn ks d t v fn fs) (hd : d.down = false) (n : Nat) (hn : n < 4294967296) (x : Int) (hx : fn n = some x) (hre : Reaches d v.first fn) :
    Calls Tryz.prog 58 #[.pointer (some ⟨S, 0, none⟩), .int .u32 (n : Int)] W0 fun e w' => e = .returned (.tuple #[blkv (d.blk v.first fn n), .int .i64 0]) ∧ Below W0.heap.size W0 w' := by
  obtain ⟨h1, h2, h3, h4⟩ := hre n x hx
  have hdn := h.tlx.ok.n
  refine sread_core h.row h.now n hn x true (by rw [hx]; rfl) (by rw [hx]; rfl) h3 h4 (by omega) (by omega) 0 _ (Dv.blk_len h.tlx.ok _ _ _) fun W hW => ?_
  obtain ⟨N, k1, _⟩ := h.tlx.below hW
  refine (own_read k1 hd (v.first + x) 1 h1 h2).mono ?_
  rintro e w' ⟨v', rfl, hown, hb⟩
  obtain ⟨A1, c1, rfl⟩ := ownsRow_form hown
  refine ⟨A1, _, c1, _, rfl, ownsRow_rd hown, hb, ?_⟩
  rw [Dv.bytes_one]
  have hblk : d.blk v.first fn n = (d.seen (v.first + x)).take 8 := by unfold Dv.blk; rw [hx]
  rw [hblk, show min (1 * 64) 8 = 8 from rfl, show ((u8s Zb).toArray).toList.drop 8 = [] from rfl, List.append_nil]
/-- One that stands nowhere is noughts. -/
theorem sread_none {X : Nat → Prop} {w W0 : World} {B g T S bn bs M kn ks : Nat} {d : Dv} {t : Tv} {v : Sv} {fn fs : SaysS} (h : Slx X w W0 B g T S bn bs M kn ks d t v fn fs) (hd : d.down = false) (n : Nat) (hn : n < 4294967296) (hx : fn n = none) (hf : 0 ≤ v.first) (hfd : v.first ≤ d.n) :
    Calls Tryz.prog 58 #[.pointer (some ⟨S, 0, none⟩), .int .u32 (n : Int)] W0 fun e w' => e = .returned (.tuple #[blkv (d.blk v.first fn n), .int .i64 0]) ∧ Below W0.heap.size W0 w' := by
  have hdn := h.tlx.ok.n
  refine sread_core h.row h.now n hn 0 false (by rw [hx]; rfl) (by rw [hx]; rfl) (by omega) (by omega) (by omega) (by omega) 0 _ (Dv.blk_len h.tlx.ok _ _ _) fun W hW => ?_
  obtain ⟨N, k1, _⟩ := h.tlx.below hW
  refine (own_read k1 hd (v.first + 0) 0 (by omega) (by omega)).mono ?_
  rintro e w' ⟨v', rfl, hown, hb⟩
  obtain ⟨A1, c1, rfl⟩ := ownsRow_form hown
  refine ⟨A1, _, c1, _, rfl, ownsRow_rd hown, hb, ?_⟩
  have hblk : d.blk v.first fn n = Zb := by unfold Dv.blk; rw [hx]
  rw [hblk]
  rfl
/-- Without power nothing is read. -/
theorem sread_down {X : Nat → Prop} {w W0 : World} {B g T S bn bs M kn ks : Nat} {d : Dv} {t : Tv} {v : Sv} {fn fs : SaysS} (h : Slx X w W0 B g T S bn bs M kn ks d t v fn fs) (hd : d.down = true) (n : Nat) (hn : n < 4294967296) (hre : Reaches d v.first fn) (hf : 0 ≤ v.first) (hfd : v.first ≤ d.n) :
    Calls Tryz.prog 58 #[.pointer (some ⟨S, 0, none⟩), .int .u32 (n : Int)] W0 fun e w' => e = .returned (.tuple #[blkv Zb, .int .i64 50]) ∧ Below W0.heap.size W0 w' := by
  have hdn := h.tlx.ok.n
  have hx : 0 ≤ (fn n).getD 0 ∧ (fn n).getD 0 ≤ 65536 := by
    cases hf : fn n with
    | none => exact ⟨by decide, by decide⟩
    | some x => obtain ⟨_, _, h3, h4⟩ := hre n x hf; exact ⟨h3, h4⟩
  refine sread_core h.row h.now n hn _ _ rfl rfl hx.1 hx.2 (by omega) (by omega) _ _ zb_len fun W hW => ?_
  obtain ⟨N, k1, _⟩ := h.tlx.below hW
  refine (own_read_down k1 hd _ _).mono ?_
  rintro e w' ⟨rfl, rfl⟩
  exact ⟨none, 0, 0, [], rfl, Rd.nil_, Below.refl _ _, rfl⟩
end Go.Proofs.YtpalmobmabkadaaGreatDoor

namespace Go.Proofs.YtpalmobmabkadaaGreatDoor
open Go.RowKit
set_option maxRecDepth 20000

/-- Where blocks stand lies on the device, behind the twin. -/
structure FitsS (d : Dv) (v : Sv) (fn : SaysS) : Prop where
  reach : Reaches d v.first fn
  pos : 0 ≤ v.first
  top : v.first ≤ d.n
  few : v.n ≤ 65536

theorem Slx.below {X : Nat → Prop} {w W0 W : World} {B g T S bn bs M kn ks : Nat} {d : Dv} {t : Tv} {v : Sv} {fn fs : SaysS} (h : Slx X w W0 B g T S bn bs M kn ks d t v fn fs) (hW : Below W0.heap.size W0 W) : Slx X w W B g T S bn bs M kn ks d t v fn fs :=
  ⟨h.tlx.below hW, h.row.below hW, h.now.kept (only_of_below hW none) (fun e => by cases e), h.saved.kept (only_of_below hW none) (fun e => by cases e), h.new, h.apart⟩
theorem sread_any {X : Nat → Prop} {w W0 : World} {B g T S bn bs M kn ks : Nat} {d : Dv} {t : Tv} {v : Sv} {fn fs : SaysS} (h : Slx X w W0 B g T S bn bs M kn ks d t v fn fs) (hf : FitsS d v fn) (hd : d.down = false) (n : Nat) (hn : n < 4294967296) :
    Calls Tryz.prog 58 #[.pointer (some ⟨S, 0, none⟩), .int .u32 (n : Int)] W0 fun e w' => e = .returned (.tuple #[blkv (d.blk v.first fn n), .int .i64 0]) ∧ Below W0.heap.size W0 w' := by
  cases hx : fn n with
  | some x => exact sread_some h hd n hn x hx hf.reach
  | none => exact sread_none h hd n hn hx hf.pos hf.top
theorem sread_dn {X : Nat → Prop} {w W0 : World} {B g T S bn bs M kn ks : Nat} {d : Dv} {t : Tv} {v : Sv} {fn fs : SaysS} (h : Slx X w W0 B g T S bn bs M kn ks d t v fn fs) (hf : FitsS d v fn) (hd : d.down = true) (n : Nat) (hn : n < 4294967296) :
    Calls Tryz.prog 58 #[.pointer (some ⟨S, 0, none⟩), .int .u32 (n : Int)] W0 fun e w' => e = .returned (.tuple #[blkv Zb, .int .i64 50]) ∧ Below W0.heap.size W0 w' :=
  sread_down h hd n hn hf.reach hf.pos hf.top

/-- Blocks from one on, as text. -/
def Dv.blks (d : Dv) (first : Int) (f : SaysS) (x : Nat) : Nat → List UInt8
  | 0 => []
  | i + 1 => d.blks first f x i ++ d.blk first f ((x + i : Nat) : Int)

def spanv (f c : Nat) : Value := .agg #[.int .u32 (f : Int), .int .u32 (c : Int)]
set_option maxHeartbeats 2000000 in
theorem sReads_nil (f c : Nat) (w : World) : Calls Tryz.prog 25 #[.pointer none, spanv f c] w fun e w' => e = .returned (.tuple #[.string ⟨#[]⟩, .int .i64 1]) ∧ Below w.heap.size w w' := by
  unfold spanv
  go_enter Tryz.func25, Tryz.ntmps25
  go_wp2_with (go_at_call 48; refine (sopen_nil _).mono ?_; rintro e w1 ⟨rfl, rfl⟩)
  go_ret2
  exact ⟨rfl, (Below.refl _ _).alloc (Nat.le_refl _) _⟩
set_option maxHeartbeats 4000000 in
theorem sReads_range {X : Nat → Prop} {w W0 : World} {B g T S bn bs M kn ks : Nat} {d : Dv} {t : Tv} {v : Sv} {fn fs : SaysS} (h : Slx X w W0 B g T S bn bs M kn ks d t v fn fs) (hf : FitsS d v fn) (f c : Nat) (hfc : f < 4294967296) (hc : c < 4294967296) (hspan : ¬ (0 < c ∧ f + c ≤ v.n)) :
    Calls Tryz.prog 25 #[.pointer (some ⟨S, 0, none⟩), spanv f c] W0 fun e w' => e = .returned (.tuple #[.string ⟨#[]⟩, .int .i64 30]) ∧ Below W0.heap.size W0 w' := by
  have hvn := hf.few
  have HS := Lib.hid h
  have HF := Lib.hid hf
  have HG := Lib.hid (fun W => spgood_any f c v.n W hfc hc (by omega))
  rw [show decide (0 < c ∧ f + c ≤ v.n) = false from by simpa using hspan] at HG
  clear h hf
  unfold spanv
  go_enter Tryz.func25, Tryz.ntmps25
  have HA := Lib.hid (fun o => (Below.refl W0.heap.size W0).alloc (Nat.le_refl _) o)
  go_wp2_with (first
    | (go_at_call 48; refine (sopen_any (HS.out.row.below (HA.out _))).mono ?_; rintro e w1 ⟨rfl, rfl⟩)
    | fail)
  have hbW := HA.out (.cells #[.int .u32 (f : Int), .int .u32 (c : Int)] 25)
  have s0 : (W0.alloc (.cells #[.int .u32 (f : Int), .int .u32 (c : Int)] 25)).cell? ⟨W0.heap.size, 0, none⟩ = some (.int .u32 (f : Int)) := cell_of_row _ _ 0 _ _ _ (newR W0 25 [.int .u32 (f : Int), .int .u32 (c : Int)]).2.1.out
  have s1 : (W0.alloc (.cells #[.int .u32 (f : Int), .int .u32 (c : Int)] 25)).cell? ⟨W0.heap.size, 1, none⟩ = some (.int .u32 (c : Int)) := cell_of_row _ _ 1 _ _ _ (newR W0 25 [.int .u32 (f : Int), .int .u32 (c : Int)]).2.1.out
  have hRW : W0.heap.size < (W0.alloc (.cells #[.int .u32 (f : Int), .int .u32 (c : Int)] 25)).heap.size := by simp
  generalize (W0.alloc (.cells #[.int .u32 (f : Int), .int .u32 (c : Int)] 25)) = W at *
  have HSW := Lib.hid (HS.out.below hbW)
  have HBW := Lib.hid hbW
  have c3 := HSW.out.row.c3
  have hSW : S < W.heap.size := HSW.out.row.lt
  clear HS HA hbW
  refine wp_low W.heap.size [([0, 1, 2, 3, 4], 5)] [6, 7] (by kernel_rfl) (by kernel_rfl) (fun d _ _ _ _ h => by cases d <;> exact h) (Nat.le_refl _) fun wd hbd => ?_
  intro q hq
  have d3 := fun z => kept (hq z) c3 hSW
  have e0 := fun z => kept (hq z) s0 hRW
  have e1 := fun z => kept (hq z) s1 hRW
  simp only [pickI, Option.toList_some, List.cons_append, List.nil_append, List.getElem?_toArray, List.getElem?_cons_succ, List.getElem?_cons_zero]
  try go_frame
  go_big_quiet_step (fail)
  go_big_quiet_step (fail)
  go_big_quiet_step (fail)
  go_big_quiet_step (fail)
  go_big_quiet_step (fail)
  refine wpQuiet_nil ?_
  clear hq q d3 e0 e1
  refine seg_op (by simp only [List.getElem?_toArray, List.getElem?_cons_succ, List.getElem?_cons_zero]; rfl) fun K hK => ?_
  go_simp
  refine (HG.out _).mono ?_
  rintro e v0 ⟨rfl, bv0⟩
  have zv0 := hbd.trans (bv0.mono hbd.size)
  refine hK.out _ _ (seg_keep zv0 ?_)
  clear hK K
  intro q hq
  have d3 := fun z => kept (hq z) c3 hSW
  have e0 := fun z => kept (hq z) s0 hRW
  have e1 := fun z => kept (hq z) s1 hRW
  simp only [pickI, Option.toList_some, List.cons_append, List.nil_append, List.getElem?_toArray, List.getElem?_cons_succ, List.getElem?_cons_zero]
  try go_frame
  go_big_quiet_step (fail)
  go_big_quiet_step (fail)
  refine wpQuiet_nil ?_
  clear hq q d3 e0 e1
  clear c3 s0 s1
  go_wp2
  go_ret2
  exact ⟨rfl, HBW.out.trans (zv0.mono HBW.out.size)⟩
set_option maxHeartbeats 4000000 in
theorem sReads_good {X : Nat → Prop} {w W0 : World} {B g T S bn bs M kn ks : Nat} {d : Dv} {t : Tv} {v : Sv} {fn fs : SaysS} (h : Slx X w W0 B g T S bn bs M kn ks d t v fn fs) (hf : FitsS d v fn) (f c : Nat) (hfc : f < 4294967296) (hc : c < 4294967296) (hspan : 0 < c ∧ f + c ≤ v.n) (hd : d.down = false) :
    Calls Tryz.prog 25 #[.pointer (some ⟨S, 0, none⟩), spanv f c] W0 fun e w' => e = .returned (.tuple #[.string (str (d.blks v.first fn f c)), .int .i64 0]) ∧ Below W0.heap.size W0 w' := by
  have hvn := hf.few
  have HS := Lib.hid h
  have HF := Lib.hid hf
  have HG := Lib.hid (fun W => spgood_any f c v.n W hfc hc (by omega))
  rw [show decide (0 < c ∧ f + c ≤ v.n) = true from by simpa using hspan] at HG
  clear h hf
  unfold spanv
  go_enter Tryz.func25, Tryz.ntmps25
  have HA := Lib.hid (fun o => (Below.refl W0.heap.size W0).alloc (Nat.le_refl _) o)
  go_wp2_with (first
    | (go_at_call 48; refine (sopen_any (HS.out.row.below (HA.out _))).mono ?_; rintro e w1 ⟨rfl, rfl⟩)
    | fail)
  have hbW := HA.out (.cells #[.int .u32 (f : Int), .int .u32 (c : Int)] 25)
  have s0 : (W0.alloc (.cells #[.int .u32 (f : Int), .int .u32 (c : Int)] 25)).cell? ⟨W0.heap.size, 0, none⟩ = some (.int .u32 (f : Int)) := cell_of_row _ _ 0 _ _ _ (newR W0 25 [.int .u32 (f : Int), .int .u32 (c : Int)]).2.1.out
  have s1 : (W0.alloc (.cells #[.int .u32 (f : Int), .int .u32 (c : Int)] 25)).cell? ⟨W0.heap.size, 1, none⟩ = some (.int .u32 (c : Int)) := cell_of_row _ _ 1 _ _ _ (newR W0 25 [.int .u32 (f : Int), .int .u32 (c : Int)]).2.1.out
  have hRW : W0.heap.size < (W0.alloc (.cells #[.int .u32 (f : Int), .int .u32 (c : Int)] 25)).heap.size := by simp
  generalize (W0.alloc (.cells #[.int .u32 (f : Int), .int .u32 (c : Int)] 25)) = W at *
  have HSW := Lib.hid (HS.out.below hbW)
  have HBW := Lib.hid hbW
  have c3 := HSW.out.row.c3
  have hSW : S < W.heap.size := HSW.out.row.lt
  clear HS HA hbW
  refine wp_low W.heap.size [([0, 1, 2, 3, 4], 5)] [6, 7] (by kernel_rfl) (by kernel_rfl) (fun d _ _ _ _ h => by cases d <;> exact h) (Nat.le_refl _) fun wd hbd => ?_
  intro q hq
  have d3 := fun z => kept (hq z) c3 hSW
  have e0 := fun z => kept (hq z) s0 hRW
  have e1 := fun z => kept (hq z) s1 hRW
  simp only [pickI, Option.toList_some, List.cons_append, List.nil_append, List.getElem?_toArray, List.getElem?_cons_succ, List.getElem?_cons_zero]
  try go_frame
  go_big_quiet_step (fail)
  go_big_quiet_step (fail)
  go_big_quiet_step (fail)
  go_big_quiet_step (fail)
  go_big_quiet_step (fail)
  refine wpQuiet_nil ?_
  clear hq q d3 e0 e1
  refine seg_op (by simp only [List.getElem?_toArray, List.getElem?_cons_succ, List.getElem?_cons_zero]; rfl) fun K hK => ?_
  go_simp
  refine (HG.out _).mono ?_
  rintro e v0 ⟨rfl, bv0⟩
  have zv0 := hbd.trans (bv0.mono hbd.size)
  refine hK.out _ _ (seg_keep zv0 ?_)
  clear hK K
  intro q hq
  have d3 := fun z => kept (hq z) c3 hSW
  have e0 := fun z => kept (hq z) s0 hRW
  have e1 := fun z => kept (hq z) s1 hRW
  simp only [pickI, Option.toList_some, List.cons_append, List.nil_append, List.getElem?_toArray, List.getElem?_cons_succ, List.getElem?_cons_zero]
  try go_frame
  go_big_quiet_step (fail)
  go_big_quiet_step (fail)
  refine wpQuiet_nil ?_
  clear hq q d3 e0 e1
  have k0 := kept zv0 s0 hRW
  have k1 := kept zv0 s1 hRW
  have HV := Lib.hid (HSW.out.below zv0)
  have HBV := Lib.hid (HBW.out.trans (zv0.mono HBW.out.size))
  have hWV : W.heap.size ≤ v0.heap.size := zv0.size
  clear c3 s0 s1 HSW HBW hbd HG
  have hvs := HV.out.row.lt
  go_wp2
  go_loopw [6, 24] (fun vr ir wr => ∃ i : Nat, i ≤ c ∧ ir = .int .u32 (i : Int) ∧ Hid (wr.ownsRow v0.heap.size 5 1 vr (8 * i) (u8s (d.blks v.first fn f i))) ∧ Hid (Below v0.heap.size v0 wr)) (fun _ ir _ => c - (intOf ir).toNat)
  case atStart => exact ⟨0, Nat.zero_le _, rfl, Lib.hid (World.ownsRow_nil _ _ _ _), Lib.hid (Below.refl _ _)⟩
  case round =>
    obtain ⟨i, hi, rfl, RO, RB⟩ := hrel
    obtain ⟨A, cc, rfl⟩ := ownsRow_form RO.out
    by_cases hlt : i < c
    · have q0 := kept RB.out k0 (by omega)
      have hfi : f + i < 4294967296 := by omega
      have HSE := sread_any (HV.out.below RB.out) HF.out hd (f + i) hfi
      have hbl : (d.blk v.first fn ((f + i : Nat) : Int)).length = 8 := Dv.blk_len HV.out.tlx.ok _ _ _
      have hby : d.blks v.first fn f (i + 1) = d.blks v.first fn f i ++ d.blk v.first fn ((f + i : Nat) : Int) := rfl
      have hby0 : (d.blks v.first fn f i).length = 8 * i := by have := (ownsRow_rd RO.out).len; simpa [u8s_len] using this
      generalize d.blk v.first fn ((f + i : Nat) : Int) = s at *
      rw [Int.natCast_add] at HSE
      have HSE := Lib.hid HSE
      have HBL := Lib.hid hbl
      have HBY := Lib.hid hby
      clear hbl hby hby0
      go_wp2_with (first
        | (go_at_call 58; refine HSE.out.mono ?_; rintro e w4 ⟨rfl, hb4⟩
           have hown4 := ownsRow_bel RO.out hb4
           have hb04 := RB.out.trans (hb4.mono RB.out.size))
        | (refine wpL_bnew (o := ⟨some 8, _, _, _, _, _⟩) rfl rfl ?_; intro W5 b5 hN; obtain ⟨hb5, hr5, hl5, hz5⟩ := hN)
        | (refine wpL_bstore rfl (.tmp 8) (.tmp 34) rfl rfl rfl hr5.out rfl HBL.out ?_; intro W6 hr6 hg6 hz6
           have hown6 := (ownsRow_bel hown4 hl5).kept hg6 (by
             rcases hq : Value.ownBlock _ with _ | q
             · exact .inl rfl
             · exact .inr (fun e => by have h1 := (hown4.lt q hq).2; have h2 := Option.some.inj e; have := hb5.out; omega))
           have hz46 : w4.heap.size ≤ W6.heap.size := Nat.le_trans hl5.size hg6.size
           have hb06 : Below v0.heap.size v0 W6 := (hb04.trans (hl5.mono hb04.size)).grown hg6 (Nat.le_trans hb04.size hl5.size) (fun q e => by have := Option.some.inj e; have := hb5.out; have := hb04.size; omega))
        | (at_builtin; refine wpL_app (m := 8) (y := .slice (some ⟨b5, 0, none⟩) 8 8) rfl (.tmp 39) (.tmp 40) _ _ rfl E_by rfl rfl hown6 ((rd_row hr6.out HBL.out (by unfold maxLen; omega)).src Tryz.underlying86 (u8s_one _)) (by unfold maxLen; omega) (by omega) hb06.size ?_; intro v7 w7 hown7 hg7 hat7)
        | fail)
      go_roundw
      case rel => exact ⟨i + 1, by omega, by go_num, Lib.hid (by rw [HBY.out, u8s_app, show 8 * (i + 1) = 8 * i + 8 from by omega]; exact hown7), Lib.hid (hb06.grown hg7 hb06.size (fun q e => (hown6.lt q e).1))⟩
      case measure => simp [intOf]; omega
    · obtain rfl : i = c := by omega
      have hrd := ownsRow_rd RO.out
      go_wp2_with (first
        | (refine wpL_str (o := ⟨some 44, _, _, _, _, _⟩) rfl (.tmp 43) 86 9 rfl Tryz.underlying86 Tryz.underlying5 Tryz.underlying9 rfl hrd ?_)
        | fail)
      go_ret2
      exact ⟨rfl, HBV.out.trans (RB.out.mono HBV.out.size)⟩
set_option maxHeartbeats 4000000 in
theorem sReads_down {X : Nat → Prop} {w W0 : World} {B g T S bn bs M kn ks : Nat} {d : Dv} {t : Tv} {v : Sv} {fn fs : SaysS} (h : Slx X w W0 B g T S bn bs M kn ks d t v fn fs) (hf : FitsS d v fn) (f c : Nat) (hfc : f < 4294967296) (hc : c < 4294967296) (hspan : 0 < c ∧ f + c ≤ v.n) (hd : d.down = true) :
    Calls Tryz.prog 25 #[.pointer (some ⟨S, 0, none⟩), spanv f c] W0 fun e w' => e = .returned (.tuple #[.string ⟨#[]⟩, .int .i64 50]) ∧ Below W0.heap.size W0 w' := by
  have hvn := hf.few
  have HS := Lib.hid h
  have HF := Lib.hid hf
  have HG := Lib.hid (fun W => spgood_any f c v.n W hfc hc (by omega))
  rw [show decide (0 < c ∧ f + c ≤ v.n) = true from by simpa using hspan] at HG
  clear h hf
  unfold spanv
  go_enter Tryz.func25, Tryz.ntmps25
  have HA := Lib.hid (fun o => (Below.refl W0.heap.size W0).alloc (Nat.le_refl _) o)
  go_wp2_with (first
    | (go_at_call 48; refine (sopen_any (HS.out.row.below (HA.out _))).mono ?_; rintro e w1 ⟨rfl, rfl⟩)
    | fail)
  have hbW := HA.out (.cells #[.int .u32 (f : Int), .int .u32 (c : Int)] 25)
  have s0 : (W0.alloc (.cells #[.int .u32 (f : Int), .int .u32 (c : Int)] 25)).cell? ⟨W0.heap.size, 0, none⟩ = some (.int .u32 (f : Int)) := cell_of_row _ _ 0 _ _ _ (newR W0 25 [.int .u32 (f : Int), .int .u32 (c : Int)]).2.1.out
  have s1 : (W0.alloc (.cells #[.int .u32 (f : Int), .int .u32 (c : Int)] 25)).cell? ⟨W0.heap.size, 1, none⟩ = some (.int .u32 (c : Int)) := cell_of_row _ _ 1 _ _ _ (newR W0 25 [.int .u32 (f : Int), .int .u32 (c : Int)]).2.1.out
  have hRW : W0.heap.size < (W0.alloc (.cells #[.int .u32 (f : Int), .int .u32 (c : Int)] 25)).heap.size := by simp
  generalize (W0.alloc (.cells #[.int .u32 (f : Int), .int .u32 (c : Int)] 25)) = W at *
  have HSW := Lib.hid (HS.out.below hbW)
  have HBW := Lib.hid hbW
  have c3 := HSW.out.row.c3
  have hSW : S < W.heap.size := HSW.out.row.lt
  clear HS HA hbW
  refine wp_low W.heap.size [([0, 1, 2, 3, 4], 5)] [6, 7] (by kernel_rfl) (by kernel_rfl) (fun d _ _ _ _ h => by cases d <;> exact h) (Nat.le_refl _) fun wd hbd => ?_
  intro q hq
  have d3 := fun z => kept (hq z) c3 hSW
  have e0 := fun z => kept (hq z) s0 hRW
  have e1 := fun z => kept (hq z) s1 hRW
  simp only [pickI, Option.toList_some, List.cons_append, List.nil_append, List.getElem?_toArray, List.getElem?_cons_succ, List.getElem?_cons_zero]
  try go_frame
  go_big_quiet_step (fail)
  go_big_quiet_step (fail)
  go_big_quiet_step (fail)
  go_big_quiet_step (fail)
  go_big_quiet_step (fail)
  refine wpQuiet_nil ?_
  clear hq q d3 e0 e1
  refine seg_op (by simp only [List.getElem?_toArray, List.getElem?_cons_succ, List.getElem?_cons_zero]; rfl) fun K hK => ?_
  go_simp
  refine (HG.out _).mono ?_
  rintro e v0 ⟨rfl, bv0⟩
  have zv0 := hbd.trans (bv0.mono hbd.size)
  refine hK.out _ _ (seg_keep zv0 ?_)
  clear hK K
  intro q hq
  have d3 := fun z => kept (hq z) c3 hSW
  have e0 := fun z => kept (hq z) s0 hRW
  have e1 := fun z => kept (hq z) s1 hRW
  simp only [pickI, Option.toList_some, List.cons_append, List.nil_append, List.getElem?_toArray, List.getElem?_cons_succ, List.getElem?_cons_zero]
  try go_frame
  go_big_quiet_step (fail)
  go_big_quiet_step (fail)
  refine wpQuiet_nil ?_
  clear hq q d3 e0 e1
  have k0 := kept zv0 s0 hRW
  have k1 := kept zv0 s1 hRW
  have HV := Lib.hid (HSW.out.below zv0)
  have HBV := Lib.hid (HBW.out.trans (zv0.mono HBW.out.size))
  have hWV : W.heap.size ≤ v0.heap.size := zv0.size
  clear c3 s0 s1 HSW HBW hbd HG
  have hvs := HV.out.row.lt
  have HSE := Lib.hid (sread_dn HV.out HF.out hd (f + 0) (by omega))
  rw [Int.natCast_add] at HSE
  go_wp2
  go_loopw [6, 24] (fun vr ir wr => ir = .int .u32 0 ∧ wr = v0) (fun _ ir _ => c - (intOf ir).toNat)
  case atStart => exact ⟨rfl, rfl⟩
  case round =>
    obtain ⟨rfl, rfl⟩ := hrel
    have hlt : 0 < c := hspan.1
    go_wp2_with (first
        | (go_at_call 58; refine HSE.out.mono ?_; rintro e w4 ⟨rfl, hb4⟩)
        | (refine wpL_bnew (o := ⟨some 8, _, _, _, _, _⟩) rfl rfl ?_; intro W5 b5 hN; obtain ⟨hb5, hr5, hl5, hz5⟩ := hN)
        | (refine wpL_bstore rfl (.tmp 8) (.tmp 34) rfl rfl rfl hr5.out rfl zb_len ?_; intro W6 hr6 hg6 hz6
           have hb06 : Below wr.heap.size wr W6 := (hb4.trans (hl5.mono hb4.size)).grown hg6 (Nat.le_trans hb4.size hl5.size) (fun q e => by have := Option.some.inj e; have := hb5.out; have := hb4.size; omega))
        | fail)
    go_ret2
    exact ⟨rfl, HBV.out.trans (hb06.mono HBV.out.size)⟩

end Go.Proofs.YtpalmobmabkadaaGreatDoor

namespace Go.Proofs.YtpalmobmabkadaaGreatDoor
open Go.RowKit
set_option maxRecDepth 20000
theorem E_blk : Elem Tryz.prog 108 116 (blkv Zb) 8 8 := Elem.mk_ Tryz.underlying108 (by kernel_rfl) rfl (by decide)
/-- A string's first bytes are copied into one of the blocks of a row of one's own. -/
theorem run_cps {w : World} {base m k : Nat} {e : TypeId} {g : Nat} {xs : List Value} {q : List UInt8} (hown : w.ownsRow base e 8 (.slice (some ⟨g, 0, none⟩) m m) m xs) (hk : k < m) (hq : 8 ≤ q.length) (ty : TypeId) (o : Nat) (ho : o = 8 * k) :
    ∃ w', (Builtin.copy_ #[86, 9] ty #[.slice (some ⟨g, o, none⟩) 8 8, .string (str q)]).run Tryz.prog w = .ok (goInt 8) w' ∧ w'.ownsRow base e 8 (.slice (some ⟨g, 0, none⟩) m m) m (xs.take (8 * k) ++ u8s (q.take 8) ++ xs.drop (8 * k + 8)) ∧ w.grownBy w' (some g) := by
  subst ho
  obtain ⟨hx, h2⟩ := hown
  rcases h2 with ⟨hv, _⟩ | ⟨g', cap, cur, hv, hbg, hg, hnc, hcm, hcs, htake⟩
  · cases hv
  · cases hv
    have hq8 : (u8s (q.take 8)).length = 8 := by rw [u8s_len, List.length_take]; omega
    have hst := run_storeCells_at Tryz.prog _ (8 * k) e (u8s (q.take 8)) 0 cur w hg (by rw [hq8, hcs]; omega) (u8s_one _)
    simp only [Nat.add_zero] at hst
    have hct : cur.toList = xs := by rw [← htake, List.take_of_length_le (by rw [Array.length_toList, hcs]; omega)]
    rw [hct, hq8] at hst
    have hsz : (str q).size = q.length := List.size_toArray
    have hmin : Nat.min (str q).size 8 = 8 := by rw [hsz]; exact Nat.min_eq_right hq
    have hfc : (((str q).extract 0 8).data.map fun b : UInt8 => Value.int .u8 (b.toNat : Int)).toList = u8s (q.take 8) := by
      rw [str_take]
      simp [str, u8s]
      rfl
    have hr : (Builtin.copy_ #[86, 9] ty #[.slice (some ⟨g, 8 * k, none⟩) 8 8, .string (str q)]).run Tryz.prog w = .ok (goInt 8) (w.setRow g (xs.take (8 * k) ++ u8s (q.take 8) ++ xs.drop (8 * k + 8)).toArray) := by
      have hse : (Go.sizeOf 5).run Tryz.prog w = .ok 1 w := by kernel_rfl
      simp only [Builtin.copy_, Builtin.lenOf, Builtin.firstCells, Sem.run_bind, run_underlying Tryz.underlying86, Result.andThen_ok, Sem.run_pure, hmin, hse, List.getElem?_toArray, List.getElem?_cons_succ, List.getElem?_cons_zero]
      rw [hfc, hst]
      rfl
    have hlen : (xs.take (8 * k) ++ u8s (q.take 8) ++ xs.drop (8 * k + 8)).length = m * 8 := by
      simp only [List.length_append, List.length_take, List.length_drop, hq8, hx]
      omega
    refine ⟨_, hr, ⟨hlen, .inr ⟨_, m, _, rfl, hbg, setRow_heap w _ cur _ e _ hg, Nat.le_refl _, hcm, by rw [List.size_toArray, hlen], ?_⟩⟩, ⟨rfl, rfl, rfl, by simp, fun k _ hk => setRow_other w _ k _ (fun e => hk (by rw [e]))⟩⟩
    rw [← hlen]
    exact List.take_length
/-- As far as k blocks were copied. -/
def cutTo (l : List UInt8) (m k : Nat) : List UInt8 := l.take (8 * k) ++ List.replicate (8 * (m - k)) 0
theorem cutTo_0 (l : List UInt8) (m : Nat) : u8s (cutTo l m 0) = (madeCells (blkv Zb).cells (m * 8)).toList := by
  have e : ∀ i, (u8s Zb).toArray[i % (u8s Zb).toArray.size]! = u8 0 := by
    intro i
    have h8 : i % 8 < 8 := Nat.mod_lt _ (by decide)
    have hs : (u8s Zb).toArray.size = 8 := rfl
    rw [hs]
    generalize i % 8 = j at h8
    match j, h8 with
    | 0, _ => rfl
    | 1, _ => rfl
    | 2, _ => rfl
    | 3, _ => rfl
    | 4, _ => rfl
    | 5, _ => rfl
    | 6, _ => rfl
    | 7, _ => rfl
  unfold madeCells cutTo
  rw [Array.toList_map, Nat.mul_zero, List.take_zero, List.nil_append, Nat.sub_zero]
  show _ = List.map (fun x => (u8s Zb).toArray[x % (u8s Zb).toArray.size]!) _
  rw [funext e, List.map_const', u8s, List.map_replicate, Array.length_toList, Array.size_range, Nat.mul_comm]
theorem cutTo_all (l : List UInt8) (m : Nat) (hl : l.length = 8 * m) : cutTo l m m = l := by
  unfold cutTo
  rw [Nat.sub_self, List.take_of_length_le (by omega)]
  simp
theorem cutTo_succ (l : List UInt8) (m k : Nat) (hl : l.length = 8 * m) (hk : k < m) : (u8s (cutTo l m k)).take (8 * k) ++ u8s ((l.drop (8 * k)).take 8) ++ (u8s (cutTo l m k)).drop (8 * k + 8) = u8s (cutTo l m (k + 1)) := by
  unfold cutTo u8s
  rw [← List.map_take, ← List.map_drop, ← List.map_append, ← List.map_append]
  congr 1
  have hlk : (l.take (8 * k)).length = 8 * k := by rw [List.length_take]; omega
  have hd0 : (l.take (8 * k)).drop (8 * k + 8) = [] := List.drop_of_length_le (by omega)
  rw [List.take_append_of_le_length (by omega), List.take_of_length_le (l := l.take (8 * k)) (by omega), List.drop_append, hlk, hd0, List.nil_append, List.drop_replicate, show 8 * (k + 1) = 8 * k + 8 from by omega, List.take_add, show 8 * (m - k) - (8 * k + 8 - 8 * k) = 8 * (m - (k + 1)) from by omega]
set_option maxHeartbeats 4000000 in
theorem scut_any (l : List UInt8) (m : Nat) (hl : l.length = 8 * m) (hm : m ≤ 65536) (w : World) :
    Calls Tryz.prog 52 #[.string (str l)] w fun e w' => ∃ v, e = .returned v ∧ w'.ownsRow w.heap.size 116 8 v m (u8s l) ∧ Below w.heap.size w w' := by
  have hsl : (str l).size = l.length := List.size_toArray
  have hdv : ((str l).size : Int) / 8 = (m : Int) := by rw [hsl, hl]; omega
  have hL : wrap64 (((str l).size : Int) / 8) = (m : Int) := by rw [hdv]; unfold wrap64; omega
  go_enter Tryz.func52, Tryz.ntmps52
  go_wp2_with (first
    | (at_make; refine wpL_make rfl _ _ _ rfl (base := w.heap.size) E_blk m rfl rfl (by first | exact hL | simp | (show wrap64 _ = _; exact hL)) (by first | exact hL | simp) (by omega) (by unfold maxLen; omega) (Nat.le_refl _) ?_; intro w3 hown3 hg3)
    | fail)
  rw [← cutTo_0 l m] at hown3
  go_loopw [11] (fun ir wr => ∃ i : Nat, i ≤ m ∧ ir = .int .i64 (i : Int) ∧ Hid (wr.ownsRow w.heap.size 116 8 (.slice (some ⟨w.heap.size, 0, none⟩) m m) m (u8s (cutTo l m i))) ∧ Hid (Below w.heap.size w wr)) (fun ir _ => m - (intOf ir).toNat)
  case atStart => exact ⟨0, Nat.zero_le _, rfl, Lib.hid hown3, Lib.hid ((Below.refl _ _).grown hg3 (Nat.le_refl _) (fun j e => by cases e))⟩
  case round =>
    obtain ⟨i, hi, rfl, RO, RB⟩ := hrel
    by_cases hlt : i < m
    · go_wp2
      refine wp_low w.heap.size [([0, 1, 2, 3, 4, 5, 6, 7], 8)] [] (by kernel_rfl) (by kernel_rfl) (fun d _ _ _ _ h => by cases d <;> exact h) (RB.out.size) fun wd hbd => ?_
      intro q hq
      simp only [pickI, Option.toList_some, List.cons_append, List.nil_append, List.getElem?_toArray, List.getElem?_cons_succ, List.getElem?_cons_zero]
      try go_frame
      go_big_quiet_step (fail)
      go_big_quiet_step (fail)
      go_big_quiet_step (fail)
      go_big_quiet_step (fail)
      go_big_quiet_step (fail)
      go_big_quiet_step (fail)
      go_big_quiet_step (fail)
      go_big_quiet_step (fail)
      refine wpQuiet_nil ?_
      clear hq q
      refine seg_op (by simp only [List.getElem?_toArray, List.getElem?_cons_succ, List.getElem?_cons_zero]; rfl) fun K hK => ?_
      go_simp
      have hx0 : (str l).extract (i * 8) (8 * m) = str (l.drop (i * 8)) := by rw [← hl]; exact str_drop l (i * 8)
      obtain ⟨w4, hrun, hown4, hg4⟩ := run_cps (q := l.drop (i * 8)) (ownsRow_bel RO.out hbd) hlt (by rw [List.length_drop]; omega) 3 (i * 8) (by omega)
      rw [hx0, hrun]
      simp only [Result.andThen]
      rw [Oper.upon_value]
      rw [Nat.mul_comm i 8, cutTo_succ l m i hl hlt] at hown4
      have zs := (hbd.mono RB.out.size).grown hg4 (Nat.le_trans RB.out.size hbd.size) (fun q e => by cases e; exact Nat.le_refl _)
      have ROw := Lib.hid hown4
      have RBw := Lib.hid (RB.out.trans zs)
      clear hown4 hg4 hrun
      refine hK.out _ _ (seg_keep zs ?_)
      clear hK K
      intro q hq
      refine wpQuiet_nil ?_
      clear hq q
      go_wp2
      go_roundw
      case rel => exact ⟨i + 1, by omega, by go_num, ROw, RBw⟩
      case measure => simp [intOf]; omega
    · obtain rfl : i = m := by omega
      go_wp2
      go_ret
      have hfin := RO.out
      rw [cutTo_all l i hl] at hfin
      exact ⟨_, rfl, hfin, RB.out⟩

end Go.Proofs.YtpalmobmabkadaaGreatDoor
