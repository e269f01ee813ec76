/- A device in memory, and its calls that only read or step. -/
import Derived.Test.YtdmcbojncgdccaaMap
import Derived.Test.YtdmcbojncgdccaaLens
import Derived.Test.YtdmcbojncgdccaaFar
import Derived.IntWalk
namespace Go.Proofs.Ytdmcbojncgdccaa
open Go.RowKit

/-- What a device is: how many sectors, what is safe, what waits, whether the power is gone, the fuse, how much was done. -/
structure Dv where
  n : Nat
  S : Int → List UInt8
  ws : List (Int × List UInt8)
  down : Bool
  fuse : Nat
  done : Nat
def Z : List UInt8 := List.replicate 64 0
theorem Z_len : Z.length = 64 := rfl
def nz (S : Int → List UInt8) : Says := fun x => if S x = Z then none else some (S x)
def lastOf (ws : List (Int × List UInt8)) : Says := ws.foldl (fun f p => fun y => if y = p.1 then some p.2 else f y) (fun _ => none)
theorem lastOf_snoc (ws : List (Int × List UInt8)) (p : Int × List UInt8) : lastOf (ws ++ [p]) = fun y => if y = p.1 then some p.2 else lastOf ws y := by simp [lastOf, List.foldl_append]
theorem nz_get (S : Int → List UInt8) (x : Int) : (nz S x).getD Z = S x := by
  unfold nz
  split
  · rename_i h; rw [h]; rfl
  · rfl
/-- The cells of what waits. -/
def chg (p : Int × List UInt8) : List Value := .int .i64 p.1 :: u8s p.2
def chgs (ws : List (Int × List UInt8)) : List Value := ws.flatMap chg
theorem chgs_snoc (ws : List (Int × List UInt8)) (p : Int × List UInt8) : chgs (ws ++ [p]) = chgs ws ++ chg p := by simp [chgs]
/-- What is read of a sector. -/
def Dv.seen (d : Dv) (x : Int) : List UInt8 := (lastOf d.ws x).getD (d.S x)

/-- A device's cells. -/
def devRow (d : Dv) (bs bl : Nat) (v : Value) : Array Value := #[.int .i64 d.n, .map (some bs), v, .map (some bl), .bool d.down, .int .u64 (d.fuse : Int), .int .i64 (d.done : Int)]

/-- It is as it should be. -/
structure Dv.Ok (d : Dv) : Prop where
  n : d.n ≤ 65536
  S : ∀ x, (d.S x).length = 64
  ws : ∀ p ∈ d.ws, p.2.length = 64 ∧ 0 ≤ p.1 ∧ p.1 < d.n
  fuse : d.fuse < 18446744073709551616

structure Dev (w : World) (B g bs bl : Nat) (v : Value) (k : Nat) (d : Dv) : Prop where
  row : w.heap[g]? = some (.cells (devRow d bs bl v) 53 (0, 0))
  safe : MapI Try.prog 3 w bs k (nz d.S)
  last : MapI Try.prog 3 w bl d.ws.length (lastOf d.ws)
  waits : w.ownsRow B 68 65 v d.ws.length (chgs d.ws)
  gs : g ≠ bs
  gl : g ≠ bl
  sl : bs ≠ bl
  vg : ∀ k, v.ownBlock = some k → k ≠ g ∧ k ≠ bs ∧ k ≠ bl
  hg : B ≤ g
  hs : B ≤ bs
  hl : B ≤ bl
  ok : d.Ok

section
variable {w w' : World} {B g bs bl k : Nat} {v : Value} {d : Dv}
theorem Dev.c0 (h : Dev w B g bs bl v k d) : w.cell? ⟨g, 0, none⟩ = some (.int .i64 (d.n : Int)) := cell_of_row w g 0 _ _ _ h.row
theorem Dev.c1 (h : Dev w B g bs bl v k d) : w.cell? ⟨g, 1, none⟩ = some (.map (some bs)) := cell_of_row w g 1 _ _ _ h.row
theorem Dev.c2 (h : Dev w B g bs bl v k d) : w.cell? ⟨g, 2, none⟩ = some v := cell_of_row w g 2 _ _ _ h.row
theorem Dev.c3 (h : Dev w B g bs bl v k d) : w.cell? ⟨g, 3, none⟩ = some (.map (some bl)) := cell_of_row w g 3 _ _ _ h.row
theorem Dev.c4 (h : Dev w B g bs bl v k d) : w.cell? ⟨g, 4, none⟩ = some (.bool d.down) := cell_of_row w g 4 _ _ _ h.row
theorem Dev.c5 (h : Dev w B g bs bl v k d) : w.cell? ⟨g, 5, none⟩ = some (.int .u64 (d.fuse : Int)) := cell_of_row w g 5 _ _ _ h.row
theorem Dev.c6 (h : Dev w B g bs bl v k d) : w.cell? ⟨g, 6, none⟩ = some (.int .i64 (d.done : Int)) := cell_of_row w g 6 _ _ _ h.row
theorem Dev.free (h : Dev w B g bs bl v k d) (i : Nat) : w.frozen? ⟨g, i, none⟩ = false := frozen_of_row w g i _ _ h.row
theorem Dev.lt (h : Dev w B g bs bl v k d) : g < w.heap.size := (Array.getElem?_eq_some_iff.1 h.row).1
/-- The blocks that are its own. -/
def Foot (g bs bl : Nat) (v : Value) (i : Nat) : Prop := i = g ∨ i = bs ∨ i = bl ∨ v.ownBlock = some i
theorem Dev.foot_lt (h : Dev w B g bs bl v k d) {i : Nat} (hi : Foot g bs bl v i) : B ≤ i ∧ i < w.heap.size := by
  rcases hi with rfl | rfl | rfl | hi
  · exact ⟨h.hg, h.lt⟩
  · exact ⟨h.hs, h.safe.lt⟩
  · exact ⟨h.hl, h.last.lt⟩
  · exact h.waits.lt i hi
end

/-- All but the blocks of F is as it was. -/
structure Keeps (F : Nat → Prop) (w w' : World) : Prop where
  os : w'.os = w.os
  tape : w'.tape = w.tape
  output : w'.output = w.output
  size : w.heap.size ≤ w'.heap.size
  block : ∀ i, i < w.heap.size → ¬ F i → w'.heap[i]? = w.heap[i]?
section
variable {F F' : Nat → Prop} {w w1 w2 : World}
theorem Keeps.refl (F : Nat → Prop) (w : World) : Keeps F w w := ⟨rfl, rfl, rfl, Nat.le_refl _, fun _ _ _ => rfl⟩
theorem Keeps.trans (h : Keeps F w w1) (k : Keeps F' w1 w2) (hF : ∀ i, F' i → F i ∨ w.heap.size ≤ i) : Keeps F w w2 :=
  ⟨k.os.trans h.os, k.tape.trans h.tape, k.output.trans h.output, Nat.le_trans h.size k.size, fun i hi hn => (k.block i (Nat.lt_of_lt_of_le hi h.size) (fun hf => (hF i hf).elim hn (fun hh => by omega))).trans (h.block i hi hn)⟩
theorem Keeps.grown {row : Option Nat} (h : Keeps F w w1) (hg : w1.grownBy w2 row) (hr : ∀ k, row = some k → F k ∨ w.heap.size ≤ k) : Keeps F w w2 :=
  ⟨hg.os.trans h.os, hg.tape.trans h.tape, hg.output.trans h.output, Nat.le_trans h.size hg.size, fun i hi hn => (hg.block i (Nat.lt_of_lt_of_le hi h.size) (fun e => (hr i e.symm).elim hn (fun hh => by omega))).trans (h.block i hi hn)⟩
theorem Keeps.alloc (h : Keeps F w w1) (o : Obj) : Keeps F w (w1.alloc o) := h.grown (World.grownBy_alloc w1 o none) (fun k e => by cases e)
theorem Keeps.drew (h : Keeps F w w1) : Keeps F w w1.drew := ⟨h.os, h.tape, h.output, h.size, h.block⟩
theorem Keeps.below {B : Nat} (h : Keeps F w w1) (hB : B ≤ w.heap.size) (hF : ∀ i, F i → B ≤ i) : Below B w w1 := ⟨h.os, h.tape, h.output, h.size, fun i hi => h.block i (by omega) (fun hf => by have := hF i hf; omega)⟩
theorem Keeps.of_below (h : Below w.heap.size w w1) : Keeps F w w1 := ⟨h.os, h.tape, h.output, h.size, fun i hi _ => h.block i hi⟩
theorem Keeps.wide (h : Keeps F w w1) (hF : ∀ i, F i → F' i) : Keeps F' w w1 := ⟨h.os, h.tape, h.output, h.size, fun i hi hn => h.block i hi (fun hf => hn (hF i hf))⟩
end

/-- A device whose own blocks are F. -/
def Dvc (w : World) (B g : Nat) (F : Nat → Prop) (d : Dv) : Prop := ∃ bs bl v k, Dev w B g bs bl v k d ∧ k + d.ws.length ≤ d.done ∧ ∀ i, F i ↔ Foot g bs bl v i
/-- What a call makes of it. -/
def Goes (B g : Nat) (F : Nat → Prop) (d' : Dv) (w w' : World) : Prop := ∃ F', Dvc w' B g F' d' ∧ Keeps F w w' ∧ ∀ i, F' i → F i ∨ w.heap.size ≤ i
section
variable {w w' : World} {B g bs bl k : Nat} {v : Value} {d : Dv}
theorem Dev.keeps (h : Dev w B g bs bl v k d) {F : Nat → Prop} (kp : Keeps F w w') (hF : ∀ i, F i → ¬ Foot g bs bl v i) : Dev w' B g bs bl v k d := by
  have eg := kp.block g h.lt (fun hf => hF g hf (.inl rfl))
  have es := kp.block bs h.safe.lt (fun hf => hF bs hf (.inr (.inl rfl)))
  have el := kp.block bl h.last.lt (fun hf => hF bl hf (.inr (.inr (.inl rfl))))
  refine ⟨eg.trans h.row, h.safe.same es, h.last.same el, ?_, h.gs, h.gl, h.sl, h.vg, h.hg, h.hs, h.hl, h.ok⟩
  obtain ⟨hl, h2⟩ := h.waits
  rcases h2 with h2 | ⟨q, cap, cur, hv, hb, hq, r⟩
  · exact ⟨hl, .inl h2⟩
  · refine ⟨hl, .inr ⟨q, cap, cur, hv, hb, (kp.block q (Array.getElem?_eq_some_iff.1 hq).1 (fun hf => hF q hf (.inr (.inr (.inr (by rw [hv]; rfl)))))).trans hq, r⟩⟩
theorem Dvc.keeps {F G : Nat → Prop} (h : Dvc w B g F d) (kp : Keeps G w w') (hF : ∀ i, G i → ¬ F i) : Dvc w' B g F d := by
  obtain ⟨bs, bl, v, k, h1, hk, h2⟩ := h
  exact ⟨bs, bl, v, k, h1.keeps kp (fun i hi hf => hF i hi ((h2 i).2 hf)), hk, h2⟩
theorem Dvc.lt {F : Nat → Prop} (h : Dvc w B g F d) (i : Nat) (hi : F i) : B ≤ i ∧ i < w.heap.size := by
  obtain ⟨bs, bl, v, k, h1, _, h2⟩ := h
  exact h1.foot_lt ((h2 i).1 hi)
theorem Dvc.ok {F : Nat → Prop} (h : Dvc w B g F d) : d.Ok := by obtain ⟨bs, bl, v, k, h1, _⟩ := h; exact h1.ok
/-- Only the device's own row turns. -/
theorem Dev.set {w1 : World} {d1 : Dv} (h : Dev w B g bs bl v k d) (hrow : w1.heap[g]? = some (.cells (devRow d1 bs bl v) 53 (0, 0))) (hg : w.grownBy w1 (some g)) (hS : d1.S = d.S) (hws : d1.ws = d.ws) (ho : d1.Ok) : Dev w1 B g bs bl v k d1 := by
  refine ⟨hrow, ?_, ?_, ?_, h.gs, h.gl, h.sl, h.vg, h.hg, h.hs, h.hl, ho⟩
  · rw [hS]
    exact h.safe.kept hg (fun e => h.gs (Option.some.inj e).symm)
  · rw [hws]
    exact h.last.kept hg (fun e => h.gl (Option.some.inj e).symm)
  · rw [hws]
    refine h.waits.kept hg ?_
    cases hk : v.ownBlock with
    | none => exact .inl rfl
    | some q => exact .inr (fun e => (h.vg q hk).1 (Option.some.inj e))
theorem Dev.goes {w1 : World} {d1 : Dv} (h : Dev w1 B g bs bl v k d1) (hk : k + d1.ws.length ≤ d1.done) {F : Nat → Prop} (hF : ∀ i, F i ↔ Foot g bs bl v i) (kp : Keeps F w w1) : Goes B g F d1 w w1 := ⟨F, ⟨bs, bl, v, k, h, hk, hF⟩, kp, fun i hi => .inl hi⟩
end

/-! ### calls that only read -/
theorem need_any (n : Int) (w : World) (h0 : 0 ≤ n) (hn : n ≤ 4611686018427387904) : Calls Try.prog 14 #[.int .i64 n] w fun e w' => e = .returned (.int .i64 ((n + 63) / 64)) ∧ w = w' := by
  by_cases h1 : n < 1
  · obtain rfl : n = 0 := by omega
    go_enter Try.func14, Try.ntmps14
    go_wp2
    go_ret
    exact ⟨rfl, rfl⟩
  · have d1 : decide (n < 1) = false := by simpa using h1
    have e : (n + 63) / 64 = (n - 1) / 64 + 1 := by omega
    rw [e]
    have h2 : 1 ≤ n := by omega
    clear e h1 h0
    go_enter Try.func14, Try.ntmps14
    go_wp2
    go_ret
    exact ⟨rfl, rfl⟩
theorem power_nil (w : World) : Calls Try.prog 28 #[.pointer none] w fun e w' => e = .returned (.int .i64 1) ∧ w = w' := by
  go_enter Try.func28, Try.ntmps28
  go_wp2
  go_ret
  exact ⟨rfl, rfl⟩
def pw (b : Bool) : Int := if b then 50 else 0
theorem power_at (g : Nat) (b : Bool) (w : World) (c4 : w.cell? ⟨g, 4, none⟩ = some (.bool b)) : Calls Try.prog 28 #[.pointer (some ⟨g, 0, none⟩)] w fun e w' => e = .returned (.int .i64 (pw b)) ∧ w = w' := by
  cases b
  · go_enter Try.func28, Try.ntmps28
    go_wp2
    go_ret
    exact ⟨rfl, rfl⟩
  · go_enter Try.func28, Try.ntmps28
    go_wp2
    go_ret
    exact ⟨rfl, rfl⟩
theorem down_nil (w : World) : Calls Try.prog 17 #[.pointer none] w fun e w' => e = .returned (.bool false) ∧ w = w' := by
  go_enter Try.func17, Try.ntmps17
  go_wp2_with (go_at_call 28; refine (power_nil _).mono ?_; rintro e w1 ⟨rfl, rfl⟩)
  go_ret
  exact ⟨rfl, rfl⟩
theorem down_at (g : Nat) (b : Bool) (w : World) (c4 : w.cell? ⟨g, 4, none⟩ = some (.bool b)) : Calls Try.prog 17 #[.pointer (some ⟨g, 0, none⟩)] w fun e w' => e = .returned (.bool b) ∧ w = w' := by
  cases b
  · go_enter Try.func17, Try.ntmps17
    go_wp2_with (go_at_call 28; refine (power_at g false _ c4).mono ?_; rintro e w1 ⟨rfl, rfl⟩)
    go_ret
    exact ⟨rfl, rfl⟩
  · go_enter Try.func17, Try.ntmps17
    go_wp2_with (go_at_call 28; refine (power_at g true _ c4).mono ?_; rintro e w1 ⟨rfl, rfl⟩)
    go_ret
    exact ⟨rfl, rfl⟩
def withinB (n : Nat) (x m : Int) : Bool := decide (0 ≤ x ∧ 0 ≤ m ∧ x ≤ (n : Int) - m)
theorem within_at (g n : Nat) (x m : Int) (w : World) (c0 : w.cell? ⟨g, 0, none⟩ = some (.int .i64 (n : Int))) (hn : n ≤ 65536) (hm2 : m ≤ 9223372036854775807) : Calls Try.prog 32 #[.pointer (some ⟨g, 0, none⟩), .int .i64 x, .int .i64 m] w fun e w' => e = .returned (.bool (withinB n x m)) ∧ w = w' := by
  unfold withinB
  by_cases h0 : 0 ≤ x
  · have d0 : decide (0 ≤ x) = true := by simpa using h0
    by_cases h1 : 0 ≤ m
    · have d1 : decide (0 ≤ m) = true := by simpa using h1
      have hd : decide (0 ≤ x ∧ 0 ≤ m ∧ x ≤ (n : Int) - m) = decide (x ≤ (n : Int) - m) := by simp [h0, h1]
      rw [hd]
      clear hd
      have hni : (n : Int) ≤ 65536 := by omega
      go_enter Try.func32, Try.ntmps32
      go_wp2
      go_ret
      exact ⟨rfl, rfl⟩
    · have d1 : decide (0 ≤ m) = false := by simpa using h1
      have hd : decide (0 ≤ x ∧ 0 ≤ m ∧ x ≤ (n : Int) - m) = false := by simp [h1]
      rw [hd]
      clear hd h1
      go_enter Try.func32, Try.ntmps32
      go_wp2
      go_ret
      exact ⟨rfl, rfl⟩
  · have d0 : decide (0 ≤ x) = false := by simpa using h0
    have hd : decide (0 ≤ x ∧ 0 ≤ m ∧ x ≤ (n : Int) - m) = false := by simp [h0]
    rw [hd]
    clear hd h0
    go_enter Try.func32, Try.ntmps32
    go_wp2
    go_ret
    exact ⟨rfl, rfl⟩
theorem sectors_nil (w : World) : Calls Try.prog 21 #[.pointer none] w fun e w' => e = .returned (.int .i64 0) ∧ w = w' := by
  go_enter Try.func21, Try.ntmps21
  go_wp2
  go_ret
  exact ⟨rfl, rfl⟩
theorem loose_nil (w : World) : Calls Try.prog 22 #[.pointer none] w fun e w' => e = .returned (.int .i64 0) ∧ w = w' := by
  go_enter Try.func22, Try.ntmps22
  go_wp2
  go_ret
  exact ⟨rfl, rfl⟩
theorem done_nil (w : World) : Calls Try.prog 23 #[.pointer none] w fun e w' => e = .returned (.int .i64 0) ∧ w = w' := by
  go_enter Try.func23, Try.ntmps23
  go_wp2
  go_ret
  exact ⟨rfl, rfl⟩
theorem loose_at (g n c : Nat) (A : Option Addr) (w : World) (c2 : w.cell? ⟨g, 2, none⟩ = some (.slice A n c)) : Calls Try.prog 22 #[.pointer (some ⟨g, 0, none⟩)] w fun e w' => e = .returned (.int .i64 (n : Int)) ∧ w = w' := by
  go_enter Try.func22, Try.ntmps22
  go_wp2
  go_ret
  exact ⟨rfl, rfl⟩
/-- How many bytes of a change are kept. -/
def kept1 (ks : List Int) (i : Nat) : Nat := match ks[i]? with | none => 0 | some k => (min (max k 0) 64).toNat
theorem kept_any (A : Option Addr) (n c i : Nat) (ks : List Int) (w : World) (h : Rd w w.heap.size 1 A n c (ks.map (Value.int .i64))) (hi : i ≤ 1000000) (hn : n ≤ 1000000) : Calls Try.prog 34 #[.slice A n c, .int .i64 (i : Int)] w fun e w' => e = .returned (.int .i64 ((kept1 ks i : Nat) : Int)) ∧ w = w' := by
  have hl : ks.length = n := by have := h.len; rwa [List.length_map] at this
  by_cases hlt : i < n
  · obtain ⟨b, o, u, rfl, hbl, hu, hc⟩ := h.at_ hlt
    simp only [List.getElem?_map, Option.map_eq_some_iff] at hu
    obtain ⟨z, hz, rfl⟩ := hu
    have e : ((kept1 ks i : Nat) : Int) = min (max z 0) 64 := by simp only [kept1, hz]; omega
    have e1 : (if (if z < 0 then 0 else z) < 64 then (if z < 0 then 0 else z) else 64) = ((kept1 ks i : Nat) : Int) := by rw [e]; split <;> split <;> omega
    have e2 : (min (64 : Int) (max 0 z)) = ((kept1 ks i : Nat) : Int) := by rw [e]; omega
    have e3 : (min (max z 0) 64) = ((kept1 ks i : Nat) : Int) := e.symm
    generalize ((kept1 ks i : Nat) : Int) = q at *
    have d1 : decide (n ≤ i) = false := by simp; omega
    clear e hz hl
    go_enter Try.func34, Try.ntmps34
    go_wp2
    go_ret
    exact ⟨by first | rfl | (rw [← e1]; rfl) | (rw [← e3]; congr 2; omega), rfl⟩
  · have e : kept1 ks i = 0 := by unfold kept1; rw [List.getElem?_eq_none (by omega)]
    rw [e]
    have d1 : decide (n ≤ i) = true := by simp; omega
    clear e hl hlt
    go_enter Try.func34, Try.ntmps34
    go_wp2
    go_ret
    exact ⟨rfl, rfl⟩

end Go.Proofs.Ytdmcbojncgdccaa
