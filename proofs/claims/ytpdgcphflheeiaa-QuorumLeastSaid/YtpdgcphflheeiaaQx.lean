/- The sort's random numbers: xorshift.Next, nextPowerOfTwo. -/
import Derived.Test.YtpdgcphflheeiaaQf
import Derived.Laws.Bits64
namespace Go.Proofs.Ytpdgcphflheeiaa
open Go.RowKit

/-- A variable that holds a word. -/
def Rc (w : World) (p : Nat) : Prop := ∃ x : Nat, x < 18446744073709551616 ∧ w.cell? ⟨p, 0, none⟩ = some (.int .u64 (x : Int)) ∧ w.frozen? ⟨p, 0, none⟩ = false
theorem xor_lt64 {a b : Nat} (ha : a < 18446744073709551616) (hb : b < 18446744073709551616) : a ^^^ b < 18446744073709551616 := Nat.xor_lt_two_pow (n := 64) ha hb
theorem xstepL (x c : Nat) (hx : x < 18446744073709551616) : ∃ y : Nat, y < 18446744073709551616 ∧ bits .xor .u64 (x : Int) (IntKind.u64.wrap ((x : Int) * (c : Int))) = (y : Int) := by
  have e : IntKind.u64.wrap ((x : Int) * (c : Int)) = ((x * c % 18446744073709551616 : Nat) : Int) := by
    rw [IntKind.wrap_u64, ← Int.natCast_mul]; omega
  have hm : x * c % 18446744073709551616 < 18446744073709551616 := Nat.mod_lt _ (by decide)
  exact ⟨_, xor_lt64 hx hm, by rw [e]; exact bits_xor_u64_nat _ _ hx hm⟩
theorem xstepR (x c : Nat) (hx : x < 18446744073709551616) : ∃ y : Nat, y < 18446744073709551616 ∧ bits .xor .u64 (x : Int) ((x : Int) / (c : Int)) = (y : Int) :=
  ⟨_, xor_lt64 hx (Nat.lt_of_le_of_lt (Nat.div_le_self x c) hx), xorShift_u64 x c hx⟩
theorem Rc.set {w : World} {p : Nat} (h : Rc w p) {x : Nat} (hx : x < 18446744073709551616) : Rc (w.setCell ⟨p, 0, none⟩ (.int .u64 (x : Int))) p := by
  obtain ⟨y, _, p0, p1⟩ := h
  exact ⟨x, hx, World.cell?_setCell_same _ _ _ p0, by rw [World.frozen?_setCell]; exact p1⟩
theorem Rc.drew {w : World} {p : Nat} (h : Rc w p) : Rc w.drew p := h
theorem Rc.drewN {w : World} {p : Nat} (h : Rc w p) (n : Nat) : Rc (w.drewN n) p := h
def Nx (w : World) (p : Nat) (e : Ending) (w' : World) : Prop := ∃ x : Nat, x < 18446744073709551616 ∧ e = .returned (.int .u64 (x : Int)) ∧ Rc w' p ∧ Trn w p w'
set_option maxHeartbeats 1000000 in
theorem next_any {w : World} {p : Nat} (h : Rc w p) :
    Calls Try.prog 47 #[.pointer (some ⟨p, 0, none⟩)] w (Nx w p) := by
  have HR := Lib.hid h
  obtain ⟨x, hx, p0, p1⟩ := h
  obtain ⟨y1, hy1, e1⟩ := xstepL x 8192 hx
  obtain ⟨y2, hy2, e2⟩ := xstepR y1 128 hy1
  obtain ⟨y3, hy3, e3⟩ := xstepL y2 131072 hy2
  rw [show ((8192 : Nat) : Int) = 8192 from rfl] at e1
  rw [show ((128 : Nat) : Int) = 128 from rfl] at e2
  rw [show ((131072 : Nat) : Int) = 131072 from rfl] at e3
  have HR3 := Lib.hid (((HR.out.set hy1).set hy2).set hy3)
  have H3 := Lib.hid hy3
  clear hx hy1 hy2 hy3
  go_enter Try.func47, Try.ntmps47
  go_wp2_with (fail)
  go_big_region
  go_wp2_with (fail)
  go_big_region
  go_wp2_with (fail)
  go_big_region
  obtain ⟨W3, hW3⟩ : ∃ W3, W3 = (((w.setCell ⟨p, 0, none⟩ (.int .u64 (y1 : Int))).setCell ⟨p, 0, none⟩ (.int .u64 (y2 : Int))).setCell ⟨p, 0, none⟩ (.int .u64 (y3 : Int))).drew.drew.drew := ⟨_, rfl⟩
  rw [← hW3]
  have HT3 : Hid (Trn w p W3) := Lib.hid (by rw [hW3]; exact (((((Trn.refl w p).set _ _).set _ _).set _ _).drew.drew).drew)
  have HR3 : Hid (Rc W3 p) := Lib.hid (by rw [hW3]; exact HR3.out)
  have p3 : W3.cell? ⟨p, 0, none⟩ = some (.int .u64 (y3 : Int)) := by
    rw [hW3]
    exact World.cell?_setCell_same _ _ _ (World.cell?_setCell_same _ _ _ (World.cell?_setCell_same _ _ _ p0))
  clear hW3 p0 p1
  go_wp2_with (fail)
  go_ret
  exact ⟨y3, H3.out, rfl, HR3.out, HT3.out⟩
end Go.Proofs.Ytpdgcphflheeiaa
