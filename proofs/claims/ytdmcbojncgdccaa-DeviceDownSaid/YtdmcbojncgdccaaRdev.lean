/- The reference device in memory, and its calls that only look. -/
import Derived.Test.YtdmcbojncgdccaaDevm
namespace Go.Proofs.Ytdmcbojncgdccaa
open Go.RowKit

/-- What a reference device is. -/
structure Rv where
  n : Nat
  safe : List (Int × List UInt8)
  loose : List (Int × List UInt8)
  down : Bool
  fuse : Int
  done : Nat
def rch (p : Int × List UInt8) : List Value := [.int .i64 p.1, .string (str p.2)]
def rchs (l : List (Int × List UInt8)) : List Value := l.flatMap rch
theorem rchs_snoc (l : List (Int × List UInt8)) (p : Int × List UInt8) : rchs (l ++ [p]) = rchs l ++ rch p := by simp [rchs]
theorem rchs_len (l : List (Int × List UInt8)) : (rchs l).length = l.length * 2 := by
  induction l with
  | nil => rfl
  | cons p l ih => simp only [rchs, List.flatMap_cons, List.length_append, List.length_cons] at ih ⊢; simp only [rch, List.length_cons, List.length_nil]; omega
theorem rchs_get (l : List (Int × List UInt8)) (i : Nat) (p : Int × List UInt8) (hi : l[i]? = some p) : (rchs l)[2 * i]? = some (.int .i64 p.1) ∧ (rchs l)[2 * i + 1]? = some (.string (str p.2)) := by
  induction l generalizing i with
  | nil => simp at hi
  | cons q l ih =>
    have e : rchs (q :: l) = .int .i64 q.1 :: .string (str q.2) :: rchs l := rfl
    rw [e]
    cases i with
    | zero =>
      simp only [List.getElem?_cons_zero, Option.some.injEq] at hi
      subst hi
      exact ⟨rfl, rfl⟩
    | succ i =>
      rw [show 2 * (i + 1) = (2 * i + 1) + 1 from by omega]
      simp only [List.getElem?_cons_succ] at hi ⊢
      exact ih i hi
theorem rchs_one (l : List (Int × List UInt8)) : ∀ u ∈ rchs l, u.oneCell' = true := by
  intro u hu
  simp only [rchs, List.mem_flatMap, rch, List.mem_cons, List.not_mem_nil, or_false] at hu
  obtain ⟨p, _, rfl | rfl⟩ := hu
  · rfl
  · rfl
def rrow (r : Rv) (vs vl : Value) : Array Value := #[.int .i64 r.n, vs, vl, .bool r.down, .int .i64 r.fuse, .int .i64 r.done]
structure Rv.Ok (r : Rv) : Prop where
  n : r.n ≤ 65536
  safe : ∀ p ∈ r.safe, p.2.length = 64
  loose : ∀ p ∈ r.loose, p.2.length = 64
  fuse : -1 ≤ r.fuse ∧ r.fuse ≤ 9223372036854775807
/-- A reference device in memory; its own blocks lie at B and above. -/
structure Rdev (w : World) (B q : Nat) (vs vl : Value) (r : Rv) : Prop where
  row : w.heap[q]? = some (.cells (rrow r vs vl) 57 (0, 0))
  safe : w.ownsRow B 79 2 vs r.safe.length (rchs r.safe)
  loose : w.ownsRow B 79 2 vl r.loose.length (rchs r.loose)
  qs : ∀ k, vs.ownBlock = some k → k ≠ q
  ql : ∀ k, vl.ownBlock = some k → k ≠ q
  sl : ∀ k, vs.ownBlock = some k → vl.ownBlock ≠ some k
  hq : B ≤ q
  ok : r.Ok
section
variable {w w' : World} {B q : Nat} {vs vl : Value} {r : Rv}
theorem Rdev.c0 (h : Rdev w B q vs vl r) : w.cell? ⟨q, 0, none⟩ = some (.int .i64 (r.n : Int)) := cell_of_row w q 0 _ _ _ h.row
theorem Rdev.c1 (h : Rdev w B q vs vl r) : w.cell? ⟨q, 1, none⟩ = some vs := cell_of_row w q 1 _ _ _ h.row
theorem Rdev.c2 (h : Rdev w B q vs vl r) : w.cell? ⟨q, 2, none⟩ = some vl := cell_of_row w q 2 _ _ _ h.row
theorem Rdev.c3 (h : Rdev w B q vs vl r) : w.cell? ⟨q, 3, none⟩ = some (.bool r.down) := cell_of_row w q 3 _ _ _ h.row
theorem Rdev.c4 (h : Rdev w B q vs vl r) : w.cell? ⟨q, 4, none⟩ = some (.int .i64 r.fuse) := cell_of_row w q 4 _ _ _ h.row
theorem Rdev.c5 (h : Rdev w B q vs vl r) : w.cell? ⟨q, 5, none⟩ = some (.int .i64 (r.done : Int)) := cell_of_row w q 5 _ _ _ h.row
theorem Rdev.free (h : Rdev w B q vs vl r) (i : Nat) : w.frozen? ⟨q, i, none⟩ = false := frozen_of_row w q i _ _ h.row
theorem Rdev.lt (h : Rdev w B q vs vl r) : q < w.heap.size := (Array.getElem?_eq_some_iff.1 h.row).1
/-- The blocks that are its own. -/
def Rfoot (q : Nat) (vs vl : Value) (i : Nat) : Prop := i = q ∨ vs.ownBlock = some i ∨ vl.ownBlock = some i
theorem Rdev.foot_lt (h : Rdev w B q vs vl r) {i : Nat} (hi : Rfoot q vs vl i) : B ≤ i ∧ i < w.heap.size := by
  rcases hi with rfl | hi | hi
  · exact ⟨h.hq, h.lt⟩
  · exact h.safe.lt i hi
  · exact h.loose.lt i hi
theorem ownsRow_kp {F : Nat → Prop} {base sz n : Nat} {e : TypeId} {v : Value} {xs : List Value} (h : w.ownsRow base e sz v n xs) (kp : Keeps F w w') (hF : ∀ i, v.ownBlock = some i → ¬ F i) : w'.ownsRow base e sz v n xs := by
  obtain ⟨hl, h2⟩ := h
  rcases h2 with h2 | ⟨q, cap, cur, hv, hb, hq, r⟩
  · exact ⟨hl, .inl h2⟩
  · exact ⟨hl, .inr ⟨q, cap, cur, hv, hb, (kp.block q (Array.getElem?_eq_some_iff.1 hq).1 (hF q (by rw [hv]; rfl))).trans hq, r⟩⟩
theorem Rdev.keeps (h : Rdev w B q vs vl r) {F : Nat → Prop} (kp : Keeps F w w') (hF : ∀ i, F i → ¬ Rfoot q vs vl i) : Rdev w' B q vs vl r :=
  ⟨(kp.block q h.lt (fun hf => hF q hf (.inl rfl))).trans h.row, ownsRow_kp h.safe kp (fun i hi hf => hF i hf (.inr (.inl hi))), ownsRow_kp h.loose kp (fun i hi hf => hF i hf (.inr (.inr hi))), h.qs, h.ql, h.sl, h.hq, h.ok⟩
theorem Rdev.below (h : Rdev w B q vs vl r) (hb : Below w.heap.size w w') : Rdev w' B q vs vl r := h.keeps (F := fun _ => False) (Keeps.of_below hb) (fun i hi => hi.elim)
theorem Rdev.new (h : Rdev w B q vs vl r) (hb : w.grownBy w' none) : Rdev w' B q vs vl r := h.keeps (F := fun _ => False) ((Keeps.refl _ _).grown hb (fun k e => by cases e)) (fun i hi => hi.elim)
/-- Only its own row turns. -/
theorem Rdev.set {r1 : Rv} (h : Rdev w B q vs vl r) (hrow : w'.heap[q]? = some (.cells (rrow r1 vs vl) 57 (0, 0))) (hg : w.grownBy w' (some q)) (hS : r1.safe = r.safe) (hL : r1.loose = r.loose) (ho : r1.Ok) : Rdev w' B q vs vl r1 := by
  refine ⟨hrow, ?_, ?_, h.qs, h.ql, h.sl, h.hq, ho⟩
  · rw [hS]; exact ownsRow_kp h.safe (Keeps.one hg) (fun i hi hf => h.qs i hi hf)
  · rw [hL]; exact ownsRow_kp h.loose (Keeps.one hg) (fun i hi hf => h.ql i hi hf)
/-- A row of one's own as a slice that reads. -/
theorem owns_slice {base n : Nat} {e : TypeId} {v : Value} {l : List (Int × List UInt8)} (h : w.ownsRow base e 2 v n (rchs l)) : ∃ A c, v = .slice A n c ∧ Rd w w.heap.size 2 A n c (rchs l) := by
  obtain ⟨hl, h2⟩ := h
  rcases h2 with ⟨rfl, rfl⟩ | ⟨g, cap, cur, rfl, hb, hg, hc, hm, hcs, htake⟩
  · refine ⟨none, 0, rfl, Nat.le_refl _, Nat.zero_le _, hl, fun h => absurd h (by omega)⟩
  · refine ⟨some ⟨g, 0, none⟩, cap, rfl, hc, hm, hl, fun _ => ⟨g, 0, rfl, (Array.getElem?_eq_some_iff.1 hg).1, fun j u hu => ?_⟩⟩
    have := World.ownsRow.cells (w := w) (base := base) (e := e) (size := 2) (v := .slice (some ⟨g, 0, none⟩) n cap) (n := n) ⟨hl, .inr ⟨g, cap, cur, rfl, hb, hg, hc, hm, hcs, htake⟩⟩ (g := g) rfl j u hu
    rwa [addOff] at this
end

/-! ### calls that only look -/
theorem rneed_any (n : Int) (w : World) (h0 : 0 ≤ n) (hn : n ≤ 4611686018427387904) : Calls Try.prog 41 #[.int .i64 n] w fun e w' => e = .returned (.int .i64 ((n + 63) / 64)) ∧ w = w' := by
  by_cases h1 : n < 1
  · obtain rfl : n = 0 := by omega
    go_enter Try.func41, Try.ntmps41
    go_wp2
    go_ret
    exact ⟨rfl, rfl⟩
  · have d1 : decide (n < 1) = false := by simpa using h1
    have e : (n + 63) / 64 = (n - 1) / 64 + 1 := by omega
    rw [e]
    have h2 : 1 ≤ n := by omega
    clear e h1 h0
    go_enter Try.func41, Try.ntmps41
    go_wp2
    go_ret
    exact ⟨rfl, rfl⟩

theorem rnoughts_any (w : World) : Calls Try.prog 42 #[] w fun e w' => e = .returned (.string (str Z)) ∧ Below w.heap.size w w' := by
  have hmake : ∀ w, (Instr.makeSlice 31 (.int .i64 64) (.int .i64 64)).run Try.prog w = .ok (.slice (some ⟨w.heap.size, 0, none⟩) 64 64) (w.alloc (.cells (u8s Z).toArray 5)) := fun _ => by kernel_rfl
  go_enter Try.func42, Try.ntmps42
  go_wp2_with (first
    | (refine wpL_str rfl (.tmp 1) _ _ rfl Try.underlying31 Try.underlying5 Try.underlying9 rfl (Rd.lit w (B := w.heap.size + 1) (u8s Z).toArray 5 (by kernel_rfl) (by unfold maxLen; omega) (Nat.lt_succ_self _)) ?_)
    | fail)
  go_ret
  exact ⟨rfl, (Below.refl _ _).alloc (Nat.le_refl _) _⟩

def rfound (l : List (Int × List UInt8)) (x : Int) : Value := .tuple #[.string (str ((lastOf l x).getD [])), .bool (lastOf l x).isSome]
theorem lastOf_take (l : List (Int × List UInt8)) (x : Int) (m : Nat) (p : Int × List UInt8) (h : l[m]? = some p) : lastOf (l.take (m + 1)) x = if x = p.1 then some p.2 else lastOf (l.take m) x := by
  obtain ⟨hl, rfl⟩ := List.getElem?_eq_some_iff.1 h
  rw [List.take_succ_eq_append_getElem hl, lastOf_snoc]
set_option maxRecDepth 8000 in
theorem rfind_any (A : Option Addr) (n c : Nat) (l : List (Int × List UInt8)) (x : Int) (w : World) (hr : Rd w w.heap.size 2 A n c (rchs l)) (hn : n ≤ 1000000000) :
    Calls Try.prog 49 #[.slice A n c, .int .i64 x] w fun e w' => e = .returned (rfound l x) ∧ w = w' := by
  have hln : l.length = n := by have := hr.2.2.1; rw [rchs_len] at this; omega
  have hni : (n : Int) ≤ 1000000000 := by omega
  have HL := Lib.hid hln
  have HR := Lib.hid hr
  clear hln hr
  go_enter Try.func49, Try.ntmps49
  go_wp2
  go_loopw [6] (fun ir wr => ∃ m : Nat, m ≤ n ∧ ir = .int .i64 ((m : Int) - 1) ∧ lastOf l x = lastOf (l.take m) x ∧ wr = w) (fun ir _ => (intOf ir + 1).toNat)
  case atStart => exact ⟨n, Nat.le_refl _, by go_num, by rw [List.take_of_length_le (by have := HL.out; omega)], rfl⟩
  case round =>
    obtain ⟨m, hm, rfl, hlast, rfl⟩ := hrel
    cases m with
    | zero =>
      have hz : lastOf l x = none := by rw [hlast]; rfl
      have HZ := Lib.hid hz
      clear hz hlast
      go_wp2
      go_ret2
      refine ⟨?_, rfl⟩
      unfold rfound
      rw [HZ.out]
      rfl
    | succ m =>
      obtain ⟨p, hp⟩ : ∃ p, l[m]? = some p := ⟨_, List.getElem?_eq_getElem (by have := HL.out; omega)⟩
      obtain ⟨h1, h2⟩ := rchs_get l m p hp
      obtain ⟨b, o, rfl, hb, hc⟩ := HR.out.2.2.2 (by omega)
      have k1 : wr.cell? ⟨b, o + m * 2, none⟩ = some (.int .i64 p.1) := by rw [Nat.mul_comm m 2]; exact hc _ _ h1
      have k2 : wr.cell? ⟨b, o + m * 2 + 1, none⟩ = some (.string (str p.2)) := by rw [Nat.mul_comm m 2]; exact hc _ _ h2
      have hst := lastOf_take l x m p hp
      have e1 : ((m + 1 : Nat) : Int) - 1 = (m : Int) := by omega
      rw [e1]
      have hlt : m < n := by omega
      have hmi : (m : Int) ≤ 1000000000 := by omega
      have HST := Lib.hid hst
      have HLA := Lib.hid hlast
      clear hst hlast hc h1 h2 hp
      by_cases hx : p.1 = x
      · have hx2 : lastOf l x = some p.2 := by rw [HLA.out, HST.out, if_pos hx.symm]
        have hbx : ((p.1 == x) : Bool) = true := by simpa using hx
        have HX := Lib.hid hx2
        clear hx2 HST HLA hx
        go_wp2
        go_ret2
        refine ⟨?_, rfl⟩
        unfold rfound
        rw [HX.out]
        rfl
      · have hx2 : lastOf l x = lastOf (l.take m) x := by rw [HLA.out, HST.out, if_neg (fun e => hx e.symm)]
        have hbx : ((p.1 == x) : Bool) = false := by simpa using hx
        have HX := Lib.hid hx2
        clear hx2 HST HLA hx
        go_wp2
        go_roundw
        case rel => exact ⟨m, by omega, by go_num, HX.out, trivial⟩
        case measure => simp [intOf]


/-- What is safe of a sector; what is read of it. -/
def Rv.safeOf (r : Rv) (x : Int) : List UInt8 := (lastOf r.safe x).getD Z
def Rv.sector (r : Rv) (x : Int) : List UInt8 := (lastOf r.loose x).getD (r.safeOf x)
theorem lastOf_mem_ : ∀ (l : List (Int × List UInt8)) (f : Says) (x : Int) (s : List UInt8), l.foldl (fun f p => fun y => if y = p.1 then some p.2 else f y) f x = some s → (∃ p ∈ l, p.2 = s) ∨ f x = some s := by
  intro l
  induction l with
  | nil => intro f x s h; exact .inr h
  | cons p l ih =>
    intro f x s h
    rcases ih _ x s h with ⟨q, hq, e⟩ | h1
    · exact .inl ⟨q, List.mem_cons_of_mem _ hq, e⟩
    · by_cases hx : x = p.1
      · simp only [if_pos hx, Option.some.injEq] at h1
        exact .inl ⟨p, List.mem_cons_self, h1⟩
      · simp only [if_neg hx] at h1
        exact .inr h1
theorem lastOf_mem (l : List (Int × List UInt8)) (x : Int) (s : List UInt8) (h : lastOf l x = some s) : ∃ p ∈ l, p.2 = s := by
  rcases lastOf_mem_ l _ x s h with h | h
  · exact h
  · cases h
theorem Rv.safeOf_len {r : Rv} (h : r.Ok) (x : Int) : (r.safeOf x).length = 64 := by
  unfold Rv.safeOf
  cases hl : lastOf r.safe x with
  | none => rfl
  | some s =>
    obtain ⟨p, hp, e⟩ := lastOf_mem _ _ _ hl
    rw [Option.getD_some, ← e]
    exact h.safe p hp
theorem Rv.sector_len {r : Rv} (h : r.Ok) (x : Int) : (r.sector x).length = 64 := by
  unfold Rv.sector
  cases hl : lastOf r.loose x with
  | none => exact Rv.safeOf_len h x
  | some s =>
    obtain ⟨p, hp, e⟩ := lastOf_mem _ _ _ hl
    rw [Option.getD_some, ← e]
    exact h.loose p hp
set_option maxRecDepth 8000 in
theorem rsafe_any {w : World} {B q : Nat} {vs vl : Value} {r : Rv} (h : Rdev w B q vs vl r) (hn : r.safe.length ≤ 1000000000) (x : Int) :
    Calls Try.prog 46 #[.pointer (some ⟨q, 0, none⟩), .int .i64 x] w fun e w' => e = .returned (.string (str (r.safeOf x))) ∧ Below w.heap.size w w' := by
  have c1 := h.c1
  obtain ⟨A, c, rfl, hr⟩ := owns_slice h.safe
  have HF := Lib.hid (rfind_any A r.safe.length c r.safe x w hr hn)
  clear hr h hn
  cases hl : lastOf r.safe x with
  | none =>
    have hv : r.safeOf x = Z := by unfold Rv.safeOf; rw [hl]; rfl
    have hfd : rfound r.safe x = .tuple #[.string (str []), .bool false] := by unfold rfound; rw [hl]; rfl
    rw [hv]
    have HFD := Lib.hid hfd
    clear hv hfd hl
    go_enter Try.func46, Try.ntmps46
    go_wp2_with (first
      | (go_at_call 49; refine HF.out.mono ?_; rintro e w1 ⟨rfl, rfl⟩; rw [HFD.out])
      | (go_at_call 42; refine (rnoughts_any _).mono ?_; rintro e w2 ⟨rfl, hb2⟩)
      | fail)
    go_ret
    exact ⟨rfl, hb2⟩
  | some s =>
    have hv : r.safeOf x = s := by unfold Rv.safeOf; rw [hl]; rfl
    have hfd : rfound r.safe x = .tuple #[.string (str s), .bool true] := by unfold rfound; rw [hl]; rfl
    rw [hv]
    have HFD := Lib.hid hfd
    clear hv hfd hl
    go_enter Try.func46, Try.ntmps46
    go_wp2_with (first
      | (go_at_call 49; refine HF.out.mono ?_; rintro e w1 ⟨rfl, rfl⟩; rw [HFD.out])
      | fail)
    go_ret
    exact ⟨rfl, Below.refl _ _⟩
set_option maxRecDepth 8000 in
theorem rsector_any {w : World} {B q : Nat} {vs vl : Value} {r : Rv} (h : Rdev w B q vs vl r) (hn : r.safe.length ≤ 1000000000) (hl : r.loose.length ≤ 1000000000) (x : Int) :
    Calls Try.prog 44 #[.pointer (some ⟨q, 0, none⟩), .int .i64 x] w fun e w' => e = .returned (.string (str (r.sector x))) ∧ Below w.heap.size w w' := by
  have c2 := h.c2
  have HS := Lib.hid (rsafe_any h hn x)
  obtain ⟨A, c, rfl, hr⟩ := owns_slice h.loose
  have HF := Lib.hid (rfind_any A r.loose.length c r.loose x w hr hl)
  clear hr h hn hl
  cases hl : lastOf r.loose x with
  | none =>
    have hv : r.sector x = r.safeOf x := by unfold Rv.sector; rw [hl]; rfl
    have hfd : rfound r.loose x = .tuple #[.string (str []), .bool false] := by unfold rfound; rw [hl]; rfl
    rw [hv]
    have HFD := Lib.hid hfd
    clear hv hfd hl
    go_enter Try.func44, Try.ntmps44
    go_wp2_with (first
      | (go_at_call 49; refine HF.out.mono ?_; rintro e w1 ⟨rfl, rfl⟩; rw [HFD.out])
      | (go_at_call 46; refine HS.out.mono ?_; rintro e w2 ⟨rfl, hb2⟩)
      | fail)
    go_ret
    exact ⟨rfl, hb2⟩
  | some s =>
    have hv : r.sector x = s := by unfold Rv.sector; rw [hl]; rfl
    have hfd : rfound r.loose x = .tuple #[.string (str s), .bool true] := by unfold rfound; rw [hl]; rfl
    rw [hv]
    have HFD := Lib.hid hfd
    clear hv hfd hl
    go_enter Try.func44, Try.ntmps44
    go_wp2_with (first
      | (go_at_call 49; refine HF.out.mono ?_; rintro e w1 ⟨rfl, rfl⟩; rw [HFD.out])
      | fail)
    go_ret
    exact ⟨rfl, Below.refl _ _⟩

def Rv.blow (r : Rv) : Rv := { r with done := r.done + 1, down := r.down || decide (r.fuse = 0), fuse := if 0 ≤ r.fuse then r.fuse - 1 else r.fuse }
theorem Rv.Ok.blow {r : Rv} (h : r.Ok) : r.blow.Ok := ⟨h.n, h.safe, h.loose, by have := h.fuse; show -1 ≤ (if 0 ≤ r.fuse then r.fuse - 1 else r.fuse) ∧ (if 0 ≤ r.fuse then r.fuse - 1 else r.fuse) ≤ _; split <;> omega⟩
set_option maxRecDepth 8000 in
theorem rblown_any {w : World} {B q : Nat} {vs vl : Value} {r : Rv} (h : Rdev w B q vs vl r) (hd : r.done ≤ 1000000000) :
    Calls Try.prog 43 #[.pointer (some ⟨q, 0, none⟩)] w fun e w' => e = .returned (.bool r.blow.down) ∧ Rdev w' B q vs vl r.blow ∧ w.grownBy w' (some q) := by
  have c3 := h.c3
  have c4 := h.c4
  have c5 := h.c5
  have f3 := h.free 3
  have f4 := h.free 4
  have f5 := h.free 5
  have hf := h.ok.fuse
  have hdi : (r.done : Int) ≤ 1000000000 := by omega
  have hd0 : (0 : Int) ≤ (r.done : Int) := by omega
  have r5 := set_row h.row 5 (.int .i64 ((r.done : Int) + 1))
  by_cases h0 : r.fuse = 0
  · have r3 := set_row r5 3 (.bool true)
    have r4 := set_row r3 4 (.int .i64 (-1))
    have hfin : Rdev (((w.setCell ⟨q, 5, none⟩ (.int .i64 ((r.done : Int) + 1))).setCell ⟨q, 3, none⟩ (.bool true)).setCell ⟨q, 4, none⟩ (.int .i64 (-1))) B q vs vl r.blow := by
      refine h.set ?_ (grownBy_tr (grownBy_tr (setCell_grows w q 5 _) (setCell_grows _ q 3 _)) (setCell_grows _ q 4 _)) rfl rfl h.ok.blow
      rw [r4]
      unfold rrow Rv.blow
      simp [h0]
    have hb : r.blow.down = true := by unfold Rv.blow; simp [h0]
    rw [hb]
    rw [h0] at c4
    have HF := Lib.hid hfin
    have HG := Lib.hid (grownBy_tr (grownBy_tr (setCell_grows w q 5 (.int .i64 ((r.done : Int) + 1))) (setCell_grows _ q 3 (.bool true))) (setCell_grows _ q 4 (.int .i64 (-1))))
    clear r5 r3 r4 hfin hb h0 hf hd h
    go_enter Try.func43, Try.ntmps43
    go_wp2
    go_ret
    exact ⟨rfl, HF.out, HG.out⟩
  · have b0 : ((r.fuse == 0) : Bool) = false := by simpa using h0
    by_cases h1 : 0 ≤ r.fuse
    · have r4 := set_row r5 4 (.int .i64 (r.fuse - 1))
      have hfin : Rdev ((w.setCell ⟨q, 5, none⟩ (.int .i64 ((r.done : Int) + 1))).setCell ⟨q, 4, none⟩ (.int .i64 (r.fuse - 1))) B q vs vl r.blow := by
        refine h.set ?_ (grownBy_tr (setCell_grows w q 5 _) (setCell_grows _ q 4 _)) rfl rfl h.ok.blow
        rw [r4]
        unfold rrow Rv.blow
        simp [h0, h1]
      have hb : r.blow.down = r.down := by unfold Rv.blow; simp [h0]
      rw [hb]
      have d1 : decide (0 ≤ r.fuse) = true := by simpa using h1
      have HF := Lib.hid hfin
      have HG := Lib.hid (grownBy_tr (setCell_grows w q 5 (.int .i64 ((r.done : Int) + 1))) (setCell_grows _ q 4 (.int .i64 (r.fuse - 1))))
      clear r5 r4 hfin hb h0 hd h
      go_enter Try.func43, Try.ntmps43
      go_wp2
      go_ret
      exact ⟨rfl, HF.out, HG.out⟩
    · have hfin : Rdev (w.setCell ⟨q, 5, none⟩ (.int .i64 ((r.done : Int) + 1))) B q vs vl r.blow := by
        refine h.set ?_ (setCell_grows w q 5 _) rfl rfl h.ok.blow
        rw [r5]
        unfold rrow Rv.blow
        simp [h0, h1]
      have hb : r.blow.down = r.down := by unfold Rv.blow; simp [h0]
      rw [hb]
      have d1 : decide (0 ≤ r.fuse) = false := by simpa using h1
      have HF := Lib.hid hfin
      have HG := Lib.hid (setCell_grows w q 5 (.int .i64 ((r.done : Int) + 1)))
      clear r5 hfin hb h0 hd h
      go_enter Try.func43, Try.ntmps43
      go_wp2
      go_ret
      exact ⟨rfl, HF.out, HG.out⟩

def Rv.new (n : Nat) : Rv := ⟨n, [], [], false, -1, 0⟩
set_option maxRecDepth 8000 in
theorem rnew_good (n : Nat) (w : World) (h1 : 1 ≤ n) (hn : n ≤ 65536) :
    Calls Try.prog 10 #[.int .i64 (n : Int)] w fun e w' => e = .returned (.tuple #[.pointer (some ⟨w.heap.size, 0, none⟩), .bool true]) ∧ Rdev w' w.heap.size w.heap.size (.slice none 0 0) (.slice none 0 0) (Rv.new n) ∧ Below w.heap.size w w' := by
  have d1 : decide ((n : Int) < 1) = false := by simp; omega
  have d2 : decide ((65536 : Int) < (n : Int)) = false := by simp; omega
  have hg := heap_alloc_new w (.cells (rrow (Rv.new n) (.slice none 0 0) (.slice none 0 0)) 57)
  have hfin : Rdev (w.alloc (.cells (rrow (Rv.new n) (.slice none 0 0) (.slice none 0 0)) 57)) w.heap.size w.heap.size (.slice none 0 0) (.slice none 0 0) (Rv.new n) :=
    ⟨hg, World.ownsRow_nil _ _ _ _, World.ownsRow_nil _ _ _ _, (fun k e => by cases e), (fun k e => by cases e), (fun k e => by cases e), Nat.le_refl _, ⟨hn, (fun p hp => by cases hp), (fun p hp => by cases hp), by show (-1 : Int) ≤ -1 ∧ (-1 : Int) ≤ _; omega⟩⟩
  have HF := Lib.hid hfin
  clear hg hfin h1 hn
  go_enter Try.func10, Try.ntmps10
  go_wp2
  go_ret2
  exact ⟨rfl, HF.out, (Below.refl _ _).alloc (Nat.le_refl _) _⟩

end Go.Proofs.Ytdmcbojncgdccaa
