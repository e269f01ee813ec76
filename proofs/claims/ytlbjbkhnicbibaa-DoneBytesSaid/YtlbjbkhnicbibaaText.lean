/- Contracts of octet's Reader: texts, bytes; Read; Text. -/
import Derived.Test.YtlbjbkhnicbibaaNum
namespace Go.Proofs.Ytlbjbkhnicbibaa
open Go.RowKit

theorem unle_le (k N : Nat) : unle (le k N) = N % 256 ^ k := by
  induction k generalizing N with
  | zero => simp [le, unle, Nat.mod_one]
  | succ k ih =>
    rw [le, unle, ih, Nat.pow_succ, Nat.mul_comm (256 ^ k) 256, Nat.mod_mul]
    simp
theorem le_unle (l : List UInt8) : le l.length (unle l) = l := by
  induction l with
  | nil => rfl
  | cons b l ih =>
    have hb := b.toNat_lt
    have e1 : (b.toNat + 256 * unle l) % 256 = b.toNat := by omega
    have e2 : (b.toNat + 256 * unle l) / 256 = unle l := by omega
    rw [unle, List.length_cons, le, e1, e2, ih]
    simp

def St.text (s : St) : List UInt8 × St := if 16384 < (s.num 2).1 then ([], ⟨[], true⟩) else (s.num 2).2.next (s.num 2).1

theorem byteCells_str (l : List UInt8) : byteCells (str l) = u8s l := rfl

theorem read_any (A : Option Addr) (n c : Nat) (l : List UInt8) (w : World) (h : Rd w w.heap.size 1 A n c (u8s l)) (hn : n ≤ 1000000) :
    Calls Try.prog 16 #[.slice A n c] w fun e w' => ∃ g, e = .returned (.pointer (some ⟨g, 0, none⟩)) ∧ w.heap.size ≤ g ∧ Rdr w' g ⟨l, false⟩ ∧ Below w.heap.size w w' := by
  have hln : l.length = n := by have := h.len; rwa [u8s_len] at this
  have HL := Lib.hid hln
  clear hln
  go_enter Try.func16, Try.ntmps16
  go_wp2_with (refine wpL_str (o := ⟨some 4, _, _, _, _, _⟩) (A := A) (n := n) (c := c) (l := l) rfl (.tmp 3) 42 9 rfl Try.underlying42 Try.underlying5 Try.underlying9 rfl h ?_)
  go_ret
  refine ⟨w.heap.size, rfl, Nat.le_refl _, ⟨heap_alloc_new w _, ?_⟩, (Below.refl _ _).alloc (Nat.le_refl _) _⟩
  rw [HL.out]; exact hn

end Go.Proofs.Ytlbjbkhnicbibaa
