/- A twin in memory, and its calls that only read. A twin: what was saved last, and what a place holds. A scope in which the run jumps to several labels. -/
import Derived.Test.YtddnjlnhnnpgiaaWords
import Derived.Test.YtddnjlnhnnpgiaaSegsZ
import Derived.Test.YtddnjlnhnnpgiaaFpureZ
import Derived.Scope
import Derived.ScopeJumps
namespace Go.Proofs.Ytddnjlnhnnpgiaa
set_option maxRecDepth 20000
open Go.RowKit

/-- What a twin is: where its places begin, how great they are, which one is the last one's, its number, its text, and the next number. -/
structure Tv where
  base : Int
  size : Int
  place : Int
  number : Nat
  text : List UInt8
  next : Nat
def twRow (g : Option Addr) (t : Tv) : Array Value := #[.pointer g, .int .i64 t.base, .int .i64 t.size, .int .i64 t.place, .int .u64 (t.number : Int), .string (str t.text), .int .u64 (t.next : Int)]
/-- A twin's row. -/
def Tw (w : World) (T : Nat) (g : Option Addr) (t : Tv) : Prop := w.heap[T]? = some (.cells (twRow g t) 64 (0, 0))
section
variable {w : World} {T : Nat} {g : Option Addr} {t : Tv}
theorem Tw.c0 (h : Tw w T g t) : w.cell? ⟨T, 0, none⟩ = some (.pointer g) := cell_of_row w T 0 _ _ _ h
theorem Tw.c1 (h : Tw w T g t) : w.cell? ⟨T, 1, none⟩ = some (.int .i64 t.base) := cell_of_row w T 1 _ _ _ h
theorem Tw.c2 (h : Tw w T g t) : w.cell? ⟨T, 2, none⟩ = some (.int .i64 t.size) := cell_of_row w T 2 _ _ _ h
theorem Tw.c3 (h : Tw w T g t) : w.cell? ⟨T, 3, none⟩ = some (.int .i64 t.place) := cell_of_row w T 3 _ _ _ h
theorem Tw.c4 (h : Tw w T g t) : w.cell? ⟨T, 4, none⟩ = some (.int .u64 (t.number : Int)) := cell_of_row w T 4 _ _ _ h
theorem Tw.c5 (h : Tw w T g t) : w.cell? ⟨T, 5, none⟩ = some (.string (str t.text)) := cell_of_row w T 5 _ _ _ h
theorem Tw.c6 (h : Tw w T g t) : w.cell? ⟨T, 6, none⟩ = some (.int .u64 (t.next : Int)) := cell_of_row w T 6 _ _ _ h
theorem Tw.below {w' : World} (h : Tw w T g t) (hb : Below w.heap.size w w') : Tw w' T g t := (hb.block T (Array.getElem?_eq_some_iff.1 h).1).trans h
theorem Tw.lt (h : Tw w T g t) : T < w.heap.size := (Array.getElem?_eq_some_iff.1 h).1
end

theorem twnumber_nil (w : World) : Calls Try.prog 21 #[.pointer none] w fun e w' => e = .returned (.int .u64 0) ∧ w = w' := by
  go_enter Try.func21, Try.ntmps21
  go_wp2
  go_ret
  exact ⟨rfl, rfl⟩
theorem twnumber_any {w : World} {T : Nat} {g : Option Addr} {t : Tv} (h : Tw w T g t) : Calls Try.prog 21 #[.pointer (some ⟨T, 0, none⟩)] w fun e w' => e = .returned (.int .u64 (t.number : Int)) ∧ w = w' := by
  have c4 := h.c4
  go_enter Try.func21, Try.ntmps21
  go_wp2
  go_ret
  exact ⟨rfl, rfl⟩
theorem twnext_nil (w : World) : Calls Try.prog 22 #[.pointer none] w fun e w' => e = .returned (.int .u64 0) ∧ w = w' := by
  go_enter Try.func22, Try.ntmps22
  go_wp2
  go_ret
  exact ⟨rfl, rfl⟩
theorem twnext_any {w : World} {T : Nat} {g : Option Addr} {t : Tv} (h : Tw w T g t) : Calls Try.prog 22 #[.pointer (some ⟨T, 0, none⟩)] w fun e w' => e = .returned (.int .u64 (t.next : Int)) ∧ w = w' := by
  have c6 := h.c6
  go_enter Try.func22, Try.ntmps22
  go_wp2
  go_ret
  exact ⟨rfl, rfl⟩
theorem topen_nil (w : World) : Calls Try.prog 31 #[.pointer none] w fun e w' => e = .returned (.bool false) ∧ w = w' := by
  go_enter Try.func31, Try.ntmps31
  go_wp2
  go_ret
  exact ⟨rfl, rfl⟩
theorem topen_bare {w : World} {T : Nat} {t : Tv} (h : Tw w T none t) : Calls Try.prog 31 #[.pointer (some ⟨T, 0, none⟩)] w fun e w' => e = .returned (.bool false) ∧ w = w' := by
  have c0 := h.c0
  go_enter Try.func31, Try.ntmps31
  go_wp2
  go_ret
  exact ⟨rfl, rfl⟩
theorem topen_any {w : World} {T : Nat} {g : Addr} {t : Tv} (h : Tw w T (some g) t) : Calls Try.prog 31 #[.pointer (some ⟨T, 0, none⟩)] w fun e w' => e = .returned (.bool true) ∧ w = w' := by
  have c0 := h.c0
  go_enter Try.func31, Try.ntmps31
  go_wp2
  go_ret
  exact ⟨rfl, rfl⟩
/-- How many bytes can be saved. -/
def Tv.room (t : Tv) : Int := min (t.size * 48 - 8) 65536
theorem twroom_nil (w : World) : Calls Try.prog 23 #[.pointer none] w fun e w' => e = .returned (.int .i64 0) ∧ w = w' := by
  go_enter Try.func23, Try.ntmps23
  go_wp2_with (go_at_call 31; refine (topen_nil _).mono ?_; rintro e w1 ⟨rfl, rfl⟩)
  go_ret
  exact ⟨rfl, rfl⟩
theorem twroom_bare {w : World} {T : Nat} {t : Tv} (h : Tw w T none t) : Calls Try.prog 23 #[.pointer (some ⟨T, 0, none⟩)] w fun e w' => e = .returned (.int .i64 0) ∧ w = w' := by
  have HO := Lib.hid (topen_bare h)
  go_enter Try.func23, Try.ntmps23
  go_wp2_with (go_at_call 31; refine HO.out.mono ?_; rintro e w1 ⟨rfl, rfl⟩)
  go_ret
  exact ⟨rfl, rfl⟩
theorem twroom_any {w : World} {T : Nat} {g : Addr} {t : Tv} (h : Tw w T (some g) t) (h0 : 0 ≤ t.size) (h1 : t.size ≤ 65536) : Calls Try.prog 23 #[.pointer (some ⟨T, 0, none⟩)] w fun e w' => e = .returned (.int .i64 t.room) ∧ w = w' := by
  have HO := Lib.hid (topen_any h)
  have c2 := h.c2
  obtain ⟨R, hR⟩ : ∃ R, R = t.room := ⟨_, rfl⟩
  have e1 : (if (65536 : Int) < t.size * 48 - 8 then (65536 : Int) else t.size * 48 - 8) = R := by rw [hR]; unfold Tv.room; split <;> omega
  have e2 : min (t.size * 48 - 8) (65536 : Int) = R := hR.symm
  have e3 : (if t.size * 48 - 8 < (65536 : Int) then t.size * 48 - 8 else (65536 : Int)) = R := by rw [hR]; unfold Tv.room; split <;> omega
  rw [← hR]
  generalize t.size = s at *
  clear hR h
  go_enter Try.func23, Try.ntmps23
  go_wp2_with (go_at_call 31; refine HO.out.mono ?_; rintro e w1 ⟨rfl, rfl⟩)
  go_ret
  exact ⟨rfl, rfl⟩
/-- The place that the last one does not need. -/
def Tv.free (t : Tv) : Int := if t.number = 0 then 0 else 1 - t.place
theorem twfree_any {w : World} {T : Nat} {g : Option Addr} {t : Tv} (h : Tw w T g t) (h0 : 0 ≤ t.place) (h1 : t.place ≤ 1) : Calls Try.prog 32 #[.pointer (some ⟨T, 0, none⟩)] w fun e w' => e = .returned (.int .i64 t.free) ∧ w = w' := by
  have c3 := h.c3
  have c4 := h.c4
  unfold Tv.free
  by_cases hn : t.number = 0
  · rw [if_pos hn]
    rw [hn] at c4
    clear h hn
    go_enter Try.func32, Try.ntmps32
    go_wp2
    go_ret
    exact ⟨rfl, rfl⟩
  · rw [if_neg hn]
    have q1 : ((t.number : Int) == 0) = false := by simp; omega
    have q2 : (t.number == 0) = false := by simpa using hn
    clear h
    go_enter Try.func32, Try.ntmps32
    go_wp2
    go_ret
    exact ⟨rfl, rfl⟩

end Go.Proofs.Ytddnjlnhnnpgiaa

namespace Go.Proofs.Ytddnjlnhnnpgiaa
set_option maxRecDepth 20000
open Go.RowKit

/-- Bytes of a string in memory of their own. -/
theorem wpL_strb {P : Program} {w : World} {ops : Array Oper} {rest : List Oper} {o : Oper} {a : Act} {Q : Exit → Act → World → Prop} (hgd : o.guard = none) (x : Operand) (tx t : TypeId) (ho : o.op = .convert tx t x)
    {e : TypeId} (hs : P.underlying tx = some .string) (ht : P.underlying t = some (.slice e)) (he : P.underlying e = some (.int .u8)) {l : List UInt8} (hx : a.eval x = .string (str l)) (hlm : l.length ≤ maxLen)
    (h : ∀ (W : World) (A : Option Addr) (cap : Nat), Rd W W.heap.size 1 A l.length cap (u8s l) → (∀ b i, A = some ⟨b, i, none⟩ → w.heap.size ≤ b) → Below w.heap.size w W → wpList P ops Q rest (a.put o.dst (.slice A l.length cap)) W) : wpList P ops Q (o :: rest) a w := by
  have hrun := run_bytes_of_string w tx t e (str l) hs ht he
  have hge := grownCap_ge w (str l).size 0 e
  have hle := grownCap_le_maxLen w (str l).size 0 e hlm
  have hrow : bytesRow (str l) (grownCap w (str l).size 0 e) = (u8s l ++ List.replicate (grownCap w (str l).size 0 e - (str l).size) (Value.int .u8 0)).toArray := by
    unfold bytesRow
    apply Array.ext'
    simp only [str, u8s, Array.toList_append, Array.toList_map, Array.toList_replicate]
    rfl
  have hsz : l.length ≤ (bytesRow (str l) (grownCap w (str l).size 0 e)).size := by rw [hrow]; simp [u8s_len]
  have hnew := (heap_alloc_new w.drew (.cells (bytesRow (str l) (grownCap w (str l).size 0 e)) e ((bytesRow (str l) (grownCap w (str l).size 0 e)).size, (bytesRow (str l) (grownCap w (str l).size 0 e)).size + 1)))
  refine wpList_plain hgd fun K hK => ?_
  unfold Oper.wp
  simp only [execOp, ho, hx, Sem.run_bind, hrun, Result.andThen_ok, Sem.run_pure]
  refine hK _ _ (h _ (some ⟨w.heap.size, 0, none⟩) (grownCap w (str l).size 0 e) ⟨hge, hle, by rw [u8s_len, Nat.mul_one], fun _ => ⟨w.heap.size, 0, rfl, by simp, fun j u hu => ?_⟩⟩ (fun b i e => by cases e; exact Nat.le_refl _) ?_)
  · rw [cell_of_row _ w.heap.size (0 + j) _ _ _ hnew, hrow, Nat.zero_add]
    have hj := (List.getElem?_eq_some_iff.1 hu).1
    simp only [List.getElem?_toArray]
    rw [List.getElem?_append_left hj]
    exact hu
  · exact undrew ((Below.refl w.drew.heap.size w.drew).alloc (Nat.le_refl _) _)

theorem twlast_nil (w : World) : Calls Try.prog 19 #[.pointer none] w fun e w' => e = .returned (.tuple #[.slice none 0 0, .bool false]) ∧ w = w' := by
  go_enter Try.func19, Try.ntmps19
  go_wp2_with (go_at_call 21; refine (twnumber_nil _).mono ?_; rintro e w1 ⟨rfl, rfl⟩)
  go_ret2
  exact ⟨rfl, rfl⟩
theorem twlast_none {w : World} {T : Nat} {g : Option Addr} {t : Tv} (h : Tw w T g t) (hn : t.number = 0) : Calls Try.prog 19 #[.pointer (some ⟨T, 0, none⟩)] w fun e w' => e = .returned (.tuple #[.slice none 0 0, .bool false]) ∧ w = w' := by
  have hN := twnumber_any h
  rw [hn] at hN
  have HN := Lib.hid hN
  clear hN h hn
  go_enter Try.func19, Try.ntmps19
  go_wp2_with (go_at_call 21; refine HN.out.mono ?_; rintro e w1 ⟨rfl, rfl⟩)
  go_ret2
  exact ⟨rfl, rfl⟩
theorem twlast_some {w : World} {T : Nat} {g : Option Addr} {t : Tv} (h : Tw w T g t) (hn : 0 < t.number) (hl : t.text.length ≤ maxLen) : Calls Try.prog 19 #[.pointer (some ⟨T, 0, none⟩)] w fun e w' => ∃ A c, e = .returned (.tuple #[.slice A t.text.length c, .bool true]) ∧ Rd w' w'.heap.size 1 A t.text.length c (u8s t.text) ∧ Below w.heap.size w w' := by
  have hN := twnumber_any h
  have c5 := h.c5
  have q1 : ((t.number : Int) == 0) = false := by simp; omega
  have q2 : (t.number == 0) = false := by simp; omega
  generalize t.number = n at *
  generalize t.text = l at *
  have HN := Lib.hid hN
  have HL := Lib.hid hl
  clear hN h hn hl
  go_enter Try.func19, Try.ntmps19
  go_wp2_with (first
    | (go_at_call 21; refine HN.out.mono ?_; rintro e w1 ⟨rfl, rfl⟩)
    | (refine wpL_strb (o := ⟨some 12, _, _, _, _, _⟩) rfl (.tmp 11) _ _ rfl Try.underlying9 Try.underlying38 Try.underlying5 rfl HL.out ?_; intro W A cap hrd hfar hb)
    | fail)
  go_ret2
  exact ⟨A, cap, rfl, hrd, hb⟩

/-- What a place holds. -/
def heldOf (l : List UInt8) : Nat × List UInt8 := ((readOf l).1, (readOf l).2.1)
set_option maxHeartbeats 1000000 in
theorem held_any (p : Int) (A : Option Addr) (n c : Nat) (l : List UInt8) (w : World) (h : Rd w w.heap.size 1 A n c (u8s l)) (hn : n ≤ 1000000) :
    Calls Try.prog 26 #[.int .i64 p, .slice A n c] w fun e w' => e = .returned (.agg #[.int .i64 p, .int .u64 ((heldOf l).1 : Int), .string (str (heldOf l).2)]) ∧ Below w.heap.size w w' := by
  obtain ⟨W, hW, hz, r0, hb⟩ : ∃ W, W = w.alloc (.cells #[.int .i64 0, .int .u64 0, .string { data := #[] }] 62) ∧ W.heap.size = w.heap.size + 1 ∧ W.heap[w.heap.size]? = some (.cells #[.int .i64 0, .int .u64 0, .string { data := #[] }] 62 (0, 0)) ∧ Below w.heap.size w W := ⟨_, rfl, by simp, heap_alloc_new w _, (Below.refl _ _).alloc (Nat.le_refl _) _⟩
  have hR := read_frame A n c l W ((h.below hb).more hb.size) hn
  unfold heldOf
  generalize readOf l = r at *
  obtain ⟨m, t, E⟩ := r
  have HR := Lib.hid hR
  have HB := Lib.hid hb
  have HZ := Lib.hid hz
  have HW := Lib.hid hW
  have HR0 := Lib.hid r0
  clear hR hb hz hW r0 h
  dsimp only
  go_enter Try.func26, Try.ntmps26
  go_wp2_with (first
    | (go_at_call 48; rw [← HW.out]; refine HR.out.mono ?_; rintro e w1 ⟨A1, n1, c1, rfl, hn1, hrd1, hb1⟩
       dsimp only at hn1 hrd1
       subst hn1
       have hcv := run_str Try.underlying38 Try.underlying5 Try.underlying9 hrd1
       have s0 := (hb1.cell (p := ⟨w.heap.size, 0, none⟩) (by have := HZ.out; simp; omega)).trans (cell_of_row _ _ 0 _ _ _ HR0.out)
       have s1 := (hb1.cell (p := ⟨w.heap.size, 1, none⟩) (by have := HZ.out; simp; omega)).trans (cell_of_row _ _ 1 _ _ _ HR0.out)
       have s2 := (hb1.cell (p := ⟨w.heap.size, 2, none⟩) (by have := HZ.out; simp; omega)).trans (cell_of_row _ _ 2 _ _ _ HR0.out)
       have z0 := frozenz hb1 0 HR0.out (by have := HZ.out; omega)
       have z1 := frozenz hb1 1 HR0.out (by have := HZ.out; omega)
       have z2 := frozenz hb1 2 HR0.out (by have := HZ.out; omega)
       simp at s0 s1 s2
       have HB1 := Lib.hid (HB.out.trans (hb1.mono HB.out.size))
       clear hb1 hrd1)
    | fail)
  exact bodyPost_ret (v := .agg #[.int .i64 p, .int .u64 (m : Int), .string (str t)]) (by simp [results, Try.results26, go_sem, s0, s1, s2]) rfl ⟨rfl, ((HB1.out.setCell (by simp) _).setCell (by simp) _).setCell (by simp) _⟩

end Go.Proofs.Ytddnjlnhnnpgiaa

namespace Go.Proofs.Ytddnjlnhnnpgiaa
set_option maxRecDepth 20000

/-- As Q; by a goto to a label: what J says of it. -/
def jumps (J : Nat → Act → World → Prop) (Q : Exit → Act → World → Prop) : Exit → Act → World → Prop
  | .goto l, a, w => J l a w
  | e, a, w => Q e a w

theorem wp_scope_labels {P : Program} {a : Act} {w : World} {Q : Exit → Act → World → Prop} {c : Code} (J : Nat → Act → World → Prop) (μ : Nat → Act → World → Nat)
    (first : c.wp P (jumps J Q) a w)
    (pass : ∀ l a w, J l a w → ∃ rest, findLabel c l = some rest ∧ rest.wp P (jumps (fun l' a' w' => J l' a' w' ∧ μ l' a' w' < μ l a w) Q) a w) : (Code.scope c).wp P Q a w := by
  intro b k cs
  have hg : ∀ l rest, findLabel c l = some rest → gotoIn l (.inScope c :: k) = some (.code rest :: .inScope c :: k) := fun l rest hf => by simp [gotoIn, hf]
  have key : ∀ n l a w, μ l a w = n → J l a w → ∀ rest, findLabel c l = some rest → ∃ e a' w', Q e a' w' ∧ Arrives P (lone (b.at a (.code rest :: .inScope c :: k)) cs w) b k cs e a' w' := by
    intro n
    induction n using Nat.strongRecOn with
    | _ n ih =>
      intro l a w hn hJ rest hf
      obtain ⟨rest', hf', hp⟩ := pass l a w hJ
      rw [hf] at hf'
      obtain rfl := Option.some.inj hf'
      obtain ⟨e, a₁, w₁, hq, harr⟩ := hp b (.inScope c :: k) cs
      cases e with
      | normal => exact ⟨.normal, a₁, w₁, hq, Steps.trans harr (.one step_inScope)⟩
      | exit id => exact ⟨.exit id, a₁, w₁, hq, fun k' hk => harr k' (by simp [exitTo, hk])⟩
      | goto l' =>
        obtain ⟨hJ', hlt⟩ := hq
        obtain ⟨rest2, hf2, _⟩ := pass l' a₁ w₁ hJ'
        obtain ⟨e₂, a₂, w₂, hq₂, harr₂⟩ := ih _ (by omega) l' a₁ w₁ rfl hJ' rest2 hf2
        exact ⟨e₂, a₂, w₂, hq₂, .of_steps (harr _ (hg _ _ hf2)) harr₂⟩
      | ret => exact ⟨_, a₁, w₁, hq, harr⟩
      | panic ch => exact ⟨_, a₁, w₁, hq, harr⟩
      | outgrown => exact ⟨_, a₁, w₁, hq, harr⟩
  obtain ⟨e, a₁, w₁, hq, harr⟩ := first b (.inScope c :: k) cs
  cases e with
  | normal => exact ⟨.normal, a₁, w₁, hq, .head step_scope (Steps.trans harr (.one step_inScope))⟩
  | exit id => exact ⟨.exit id, a₁, w₁, hq, fun k' hk => .head step_scope (harr k' (by simp [exitTo, hk]))⟩
  | goto l' =>
    obtain ⟨rest2, hf2, _⟩ := pass l' a₁ w₁ hq
    obtain ⟨e₂, a₂, w₂, hq₂, harr₂⟩ := key _ l' a₁ w₁ rfl hq rest2 hf2
    exact ⟨e₂, a₂, w₂, hq₂, .of_steps (.head step_scope (harr _ (hg _ _ hf2))) harr₂⟩
  | ret => exact ⟨_, a₁, w₁, hq, .of_steps (.one step_scope) harr⟩
  | panic ch => exact ⟨_, a₁, w₁, hq, .of_steps (.one step_scope) harr⟩
  | outgrown => exact ⟨_, a₁, w₁, hq, .of_steps (.one step_scope) harr⟩

/-- As Q, but a goto goes on at its label, at most n times. -/
def lands (P : Program) (c : Code) (Q : Exit → Act → World → Prop) : Nat → Exit → Act → World → Prop
  | n, .goto l, a, w => match n with
    | 0 => False
    | n + 1 => ∃ rest, findLabel c l = some rest ∧ rest.wp P (lands P c Q n) a w
  | _, e, a, w => Q e a w

section
variable {P : Program} {c : Code} {Q : Exit → Act → World → Prop} {a : Act} {w : World} {n : Nat}
@[go_sem] theorem lands_normal : lands P c Q n .normal a w = Q .normal a w := by cases n <;> rfl
@[go_sem] theorem lands_exit (id : Nat) : lands P c Q n (.exit id) a w = Q (.exit id) a w := by cases n <;> rfl
@[go_sem] theorem lands_ret : lands P c Q n .ret a w = Q .ret a w := by cases n <;> rfl
@[go_sem] theorem lands_panic (ch : List PanicEntry) : lands P c Q n (.panic ch) a w = Q (.panic ch) a w := by cases n <;> rfl
theorem lands_goto (l : Nat) : lands P c Q (n + 1) (.goto l) a w = ∃ rest, findLabel c l = some rest ∧ rest.wp P (lands P c Q n) a w := rfl
end

theorem wp_scope_rounds {P : Program} {a : Act} {w : World} {Q : Exit → Act → World → Prop} {c : Code} (n : Nat) (first : c.wp P (lands P c Q n) a w) : (Code.scope c).wp P Q a w := by
  intro b k cs
  have hg : ∀ l rest, findLabel c l = some rest → gotoIn l (.inScope c :: k) = some (.code rest :: .inScope c :: k) := fun l rest hf => by simp [gotoIn, hf]
  have key : ∀ n (d : Code) a w, d.wp P (lands P c Q n) a w → ∃ e a' w', Q e a' w' ∧ Arrives P (lone (b.at a (.code d :: .inScope c :: k)) cs w) b k cs e a' w' := by
    intro n
    induction n with
    | zero =>
      intro d a w hd
      obtain ⟨e, a₁, w₁, hq, harr⟩ := hd b (.inScope c :: k) cs
      cases e with
      | normal => exact ⟨.normal, a₁, w₁, hq, Steps.trans harr (.one step_inScope)⟩
      | exit id => exact ⟨.exit id, a₁, w₁, hq, fun k' hk => harr k' (by simp [exitTo, hk])⟩
      | goto l' => exact absurd hq (by simp [lands])
      | ret => exact ⟨_, a₁, w₁, hq, harr⟩
      | panic ch => exact ⟨_, a₁, w₁, hq, harr⟩
      | outgrown => exact ⟨_, a₁, w₁, hq, harr⟩
    | succ n ih =>
      intro d a w hd
      obtain ⟨e, a₁, w₁, hq, harr⟩ := hd b (.inScope c :: k) cs
      cases e with
      | normal => exact ⟨.normal, a₁, w₁, hq, Steps.trans harr (.one step_inScope)⟩
      | exit id => exact ⟨.exit id, a₁, w₁, hq, fun k' hk => harr k' (by simp [exitTo, hk])⟩
      | goto l' =>
        obtain ⟨rest2, hf2, hp⟩ := hq
        obtain ⟨e₂, a₂, w₂, hq₂, harr₂⟩ := ih rest2 a₁ w₁ hp
        exact ⟨e₂, a₂, w₂, hq₂, .of_steps (harr _ (hg _ _ hf2)) harr₂⟩
      | ret => exact ⟨_, a₁, w₁, hq, harr⟩
      | panic ch => exact ⟨_, a₁, w₁, hq, harr⟩
      | outgrown => exact ⟨_, a₁, w₁, hq, harr⟩
  obtain ⟨e, a₁, w₁, hq, harr⟩ := key n c a w first
  exact ⟨e, a₁, w₁, hq, .of_steps (.one step_scope) harr⟩

end Go.Proofs.Ytddnjlnhnnpgiaa
