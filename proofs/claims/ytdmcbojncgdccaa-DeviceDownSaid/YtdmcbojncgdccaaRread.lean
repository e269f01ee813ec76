/- The reference device: what is read. -/
import Derived.Test.YtdmcbojncgdccaaRcrash
namespace Go.Proofs.Ytdmcbojncgdccaa
open Go.RowKit

theorem byteCells_str (l : List UInt8) : byteCells (str l) = u8s l := rfl
def Rv.bytes (r : Rv) (x : Int) : Nat → List UInt8
  | 0 => []
  | m + 1 => r.bytes x m ++ r.sector (x + m)
theorem rread_down {w : World} {q : Nat} (x m : Int) (c3 : w.cell? ⟨q, 3, none⟩ = some (.bool true)) :
    Calls Try.prog 25 #[.pointer (some ⟨q, 0, none⟩), .int .i64 x, .int .i64 m] w fun e w' => e = .returned (.tuple #[.slice none 0 0, .int .i64 50]) ∧ w = w' := by
  go_enter Try.func25, Try.ntmps25
  go_wp2
  go_ret2
  exact ⟨rfl, rfl⟩
theorem rread_out {w : World} {q N : Nat} (x m : Int) (c0 : w.cell? ⟨q, 0, none⟩ = some (.int .i64 (N : Int))) (c3 : w.cell? ⟨q, 3, none⟩ = some (.bool false)) (hN : N ≤ 65536) (hout : withinB N x m = false) :
    Calls Try.prog 25 #[.pointer (some ⟨q, 0, none⟩), .int .i64 x, .int .i64 m] w fun e w' => e = .returned (.tuple #[.slice none 0 0, .int .i64 30]) ∧ w = w' := by
  have hni : (N : Int) ≤ 65536 := by omega
  have hn0 : (0 : Int) ≤ (N : Int) := by omega
  unfold withinB at hout
  by_cases h0 : x < 0
  · have d0 : decide (x < 0) = true := by simpa using h0
    clear hout
    go_enter Try.func25, Try.ntmps25
    go_wp2
    go_ret2
    exact ⟨rfl, rfl⟩
  · have d0 : decide (x < 0) = false := by simpa using h0
    by_cases h1 : m < 0
    · have d1 : decide (m < 0) = true := by simpa using h1
      clear hout h0
      go_enter Try.func25, Try.ntmps25
      go_wp2
      go_ret2
      exact ⟨rfl, rfl⟩
    · have d1 : decide (m < 0) = false := by simpa using h1
      by_cases h2 : (N : Int) < m
      · have d2 : decide ((N : Int) < m) = true := by simpa using h2
        clear hout h0 h1
        go_enter Try.func25, Try.ntmps25
        go_wp2
        go_ret2
        exact ⟨rfl, rfl⟩
      · have d2 : decide ((N : Int) < m) = false := by simpa using h2
        have h3 : (N : Int) - m < x := by
          simp at hout
          omega
        have d3 : decide ((N : Int) - m < x) = true := by simpa using h3
        have h4 : 0 ≤ m := by omega
        have h5 : m ≤ (N : Int) := by omega
        clear hout h0 h1 h2
        go_enter Try.func25, Try.ntmps25
        go_wp2
        go_ret2
        exact ⟨rfl, rfl⟩

set_option maxHeartbeats 4000000 in
set_option maxRecDepth 8000 in
theorem rread_good {w : World} {B q : Nat} {vs vl : Value} {r : Rv} (h : Rdev w B q vs vl r) (hd : r.down = false) (hn : r.safe.length ≤ 1000000000) (hl : r.loose.length ≤ 1000000000) (x : Int) (m : Nat) (hx : 0 ≤ x) (hm : x + m ≤ r.n) :
    Calls Try.prog 25 #[.pointer (some ⟨q, 0, none⟩), .int .i64 x, .int .i64 (m : Int)] w fun e w' => ∃ v, e = .returned (.tuple #[v, .int .i64 0]) ∧ w'.ownsRow w.heap.size 5 1 v (64 * m) (u8s (r.bytes x m)) ∧ Below w.heap.size w w' := by
  have c0 := h.c0
  have c3 := h.c3
  rw [hd] at c3
  have hN := h.ok.n
  have hni : (r.n : Int) ≤ 65536 := by omega
  have hmi : (m : Int) ≤ 65536 := by omega
  have hxi : x ≤ 65536 := by omega
  have d0 : decide (x < 0) = false := by simpa using hx
  have d1 : decide ((m : Int) < 0) = false := by simp
  have hmn : m ≤ r.n := by omega
  have d4 : decide (r.n < m) = false := by simpa using hmn
  have d5 : ¬ r.n < m := by omega
  have d2 : decide ((r.n : Int) < (m : Int)) = false := by simp; omega
  have d3 : decide ((r.n : Int) - (m : Int) < x) = false := by simp; omega
  have HS := Lib.hid (fun (W : World) (hb : Below w.heap.size w W) (y : Int) => rsector_any (h.below hb) hn hl y)
  have HSL := Lib.hid (fun y => Rv.sector_len h.ok y)
  have HM := Lib.hid hm
  have HMN := Lib.hid hN
  clear h hn hl hm hN
  go_enter Try.func25, Try.ntmps25
  go_wp2
  go_loopw [8, 9] (fun vr ir wr => ∃ i : Nat, i ≤ m ∧ ir = .int .i64 (i : Int) ∧ wr.ownsRow w.heap.size 5 1 vr (64 * i) (u8s (r.bytes x i)) ∧ Below w.heap.size w wr) (fun _ ir _ => m - (intOf ir).toNat)
  case atStart => exact ⟨0, Nat.zero_le _, rfl, World.ownsRow_nil _ _ _ _, Below.refl _ _⟩
  case round =>
    obtain ⟨i, hi, rfl, hown, hb⟩ := hrel
    by_cases hlt : i < m
    · have hse := HS.out wr hb (x + i)
      have hsl := HSL.out (x + i)
      have hby : r.bytes x (i + 1) = r.bytes x i ++ r.sector (x + i) := rfl
      generalize r.sector (x + i) = s at *
      have HSE := Lib.hid hse
      have HL := Lib.hid hsl
      have HBY := Lib.hid hby
      have hii : (i : Int) ≤ 65536 := by omega
      have hlti : (i : Int) < (m : Int) := by omega
      clear hsl hse hby
      go_wp2_with (first
        | (go_at_call 44; refine HSE.out.mono ?_; rintro e w4 ⟨rfl, hb4⟩
           have hown4 := ownsRow_bel hown hb4
           have hb04 := hb.trans (hb4.mono hb.size))
        | (at_builtin; refine wpL_app (m := (str s).size) (y := .string (str s)) rfl (.tmp 43) (.tmp 48) _ _ rfl E_by rfl rfl hown4 (Src.ofString _ Try.underlying9 (str s)) (by have := HL.out; rw [str_size]; unfold maxLen; omega) (by have := HL.out; rw [str_size]; omega) hb04.size ?_; intro v7 w7 hown7 hg7 hat7)
        | fail)
      have hown8 : w7.ownsRow w.heap.size 5 1 v7 (64 * (i + 1)) (u8s (r.bytes x (i + 1))) := by
        rw [HBY.out, u8s_app, show 64 * (i + 1) = 64 * i + (str s).size from by rw [str_size, HL.out]; omega]
        rw [byteCells_str] at hown7
        exact hown7
      go_roundw
      case rel => exact ⟨i + 1, by omega, by go_num, hown8, hb04.grown hg7 hb04.size (fun q e => (hown4.lt q e).1)⟩
      case measure => simp [intOf]; omega
    · obtain rfl : i = m := by omega
      go_wp2
      go_ret2
      exact ⟨u8, rfl, hown, hb⟩

end Go.Proofs.Ytdmcbojncgdccaa
