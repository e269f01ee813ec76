/- A device: a new one; its sectors in a row. -/
import Derived.Test.YtdmcbojncgdccaaDevd
namespace Go.Proofs.Ytdmcbojncgdccaa
open Go.RowKit

theorem E_by : Elem Try.prog 31 5 (.int .u8 0) 1 1 := Elem.mk_ Try.underlying31 (by kernel_rfl) rfl (by decide)
theorem rd_row {w : World} {g n : Nat} {e : TypeId} {xs : List UInt8} (h : w.heap[g]? = some (.cells (u8s xs).toArray e (0, 0))) (hn : xs.length = n) (hm : n ≤ maxLen) : Rd w w.heap.size 1 (some ⟨g, 0, none⟩) n n (u8s xs) :=
  ⟨Nat.le_refl _, hm, by rw [u8s_len]; omega, fun _ => ⟨g, 0, rfl, (Array.getElem?_eq_some_iff.1 h).1, fun j u hu => by
    rw [cell_of_row w g (0 + j) _ e (0, 0) h]
    simpa using hu⟩⟩
theorem ownsRow_bel {w w' : World} {base sz n : Nat} {e : TypeId} {v : Value} {xs : List Value} (h : w.ownsRow base e sz v n xs) (hb : Below w.heap.size w w') : w'.ownsRow base e sz v n xs := by
  refine h.kept (below_grown hb none) ?_
  cases v.ownBlock with
  | none => exact .inl rfl
  | some q => exact .inr (fun e => by cases e)

/-- So many sectors from one on. -/
def Dv.bytes (d : Dv) (x : Int) : Nat → List UInt8
  | 0 => []
  | i + 1 => d.bytes x i ++ d.seen (x + i)
theorem Dv.seen_len {d : Dv} (h : d.Ok) (x : Int) : (d.seen x).length = 64 := by
  unfold Dv.seen
  have key : ∀ ws : List (Int × List UInt8), (∀ p ∈ ws, p.2.length = 64) → ∀ f : Says, (∀ y s, f y = some s → s.length = 64) → ∀ y s, (ws.foldl (fun f p => fun y => if y = p.1 then some p.2 else f y) f) y = some s → s.length = 64 := by
    intro ws
    induction ws with
    | nil => intro _ f hf; exact hf
    | cons p ws ih =>
      intro hws f hf
      refine ih (fun q hq => hws q (List.mem_cons_of_mem _ hq)) _ ?_
      intro y s hs
      dsimp only at hs
      split at hs
      · cases hs; exact hws p List.mem_cons_self
      · exact hf y s hs
  cases hl : lastOf d.ws x with
  | none => exact h.S x
  | some s => exact key d.ws (fun p hp => (h.ws p hp).1) _ (fun y s e => by cases e) x s hl
theorem Dv.bytes_len {d : Dv} (h : d.Ok) (x : Int) (m : Nat) : (d.bytes x m).length = 64 * m := by
  induction m with
  | zero => rfl
  | succ m ih => rw [Dv.bytes, List.length_append, ih, Dv.seen_len h]; omega

theorem read_nil (x n : Int) (w : World) : Calls Try.prog 13 #[.pointer none, .int .i64 x, .int .i64 n] w fun e w' => e = .returned (.tuple #[.slice none 0 0, .int .i64 1]) ∧ w = w' := by
  go_enter Try.func13, Try.ntmps13
  go_wp2_with (go_at_call 28; refine (power_nil _).mono ?_; rintro e w1 ⟨rfl, rfl⟩)
  go_ret2
  exact ⟨rfl, rfl⟩
theorem read_down (g : Nat) (x n : Int) (w : World) (c4 : w.cell? ⟨g, 4, none⟩ = some (.bool true)) : Calls Try.prog 13 #[.pointer (some ⟨g, 0, none⟩), .int .i64 x, .int .i64 n] w fun e w' => e = .returned (.tuple #[.slice none 0 0, .int .i64 50]) ∧ w = w' := by
  go_enter Try.func13, Try.ntmps13
  go_wp2_with (go_at_call 28; refine (power_at g true _ c4).mono ?_; rintro e w1 ⟨rfl, rfl⟩)
  go_ret2
  exact ⟨rfl, rfl⟩
theorem read_out (g n : Nat) (x m : Int) (w : World) (c0 : w.cell? ⟨g, 0, none⟩ = some (.int .i64 (n : Int))) (c4 : w.cell? ⟨g, 4, none⟩ = some (.bool false)) (hn : n ≤ 65536) (hm : m ≤ 9223372036854775807) (hout : withinB n x m = false) :
    Calls Try.prog 13 #[.pointer (some ⟨g, 0, none⟩), .int .i64 x, .int .i64 m] w fun e w' => e = .returned (.tuple #[.slice none 0 0, .int .i64 30]) ∧ w = w' := by
  have hW := within_at g n x m w c0 hn hm
  rw [hout] at hW
  have HW := Lib.hid hW
  clear hW hout hm hn
  go_enter Try.func13, Try.ntmps13
  go_wp2_with (first
    | (go_at_call 28; refine (power_at g false _ c4).mono ?_; rintro e w1 ⟨rfl, rfl⟩)
    | (go_at_call 32; refine HW.out.mono ?_; rintro e w1 ⟨rfl, rfl⟩)
    | fail)
  go_ret2
  exact ⟨rfl, rfl⟩

set_option maxHeartbeats 2000000 in
set_option maxRecDepth 8000 in
theorem read_good {w : World} {B g bs bl k : Nat} {v : Value} {d : Dv} (h : Dev w B g bs bl v k d) (hd : d.down = false) (x : Int) (m : Nat) (hx : 0 ≤ x) (hm : x + m ≤ d.n) :
    Calls Try.prog 13 #[.pointer (some ⟨g, 0, none⟩), .int .i64 x, .int .i64 (m : Int)] w fun e w' => ∃ v, e = .returned (.tuple #[v, .int .i64 0]) ∧ w'.ownsRow w.heap.size 5 1 v (64 * m) (u8s (d.bytes x m)) ∧ Below w.heap.size w w' := by
  have c4 := h.c4
  rw [hd] at c4
  have hn := h.ok.n
  have hW := within_at g d.n x m w h.c0 hn (by omega)
  rw [show withinB d.n x m = true from by unfold withinB; simp; omega] at hW
  have HW := Lib.hid hW
  have HH := Lib.hid h
  have hmi : (m : Int) ≤ 65536 := by omega
  have hxi : x ≤ 65536 := by omega
  have HM := Lib.hid hm
  have HN := Lib.hid hn
  clear hW h hd hm hn
  go_enter Try.func13, Try.ntmps13
  go_wp2_with (first
    | (go_at_call 28; refine (power_at g false _ c4).mono ?_; rintro e w1 ⟨rfl, rfl⟩)
    | (go_at_call 32; refine HW.out.mono ?_; rintro e w1 ⟨rfl, rfl⟩)
    | (at_make; refine wpL_make0 rfl _ _ _ rfl (base := w.heap.size) E_by (m * 64) rfl rfl (by omega) (by omega) (by unfold maxLen; omega) (Nat.le_refl _) ?_; intro w3 hown3 hg3
       have hb3 : Below w.heap.size w w3 := (Below.refl _ _).grown hg3 (Nat.le_refl _) (fun j e => by cases e))
    | fail)
  clear hg3
  go_loopw [9, 26] (fun vr ir wr => ∃ i : Nat, i ≤ m ∧ ir = .int .i64 (i : Int) ∧ wr.ownsRow w.heap.size 5 1 vr (64 * i) (u8s (d.bytes x i)) ∧ Below w.heap.size w wr) (fun _ ir _ => m - (intOf ir).toNat)
  case atStart => exact ⟨0, Nat.zero_le _, rfl, hown3, hb3⟩
  case round =>
    obtain ⟨i, hi, rfl, hown, hb⟩ := hrel
    by_cases hlt : i < m
    · have hsl := Dv.seen_len HH.out.ok (x + i)
      have hse := seen_any (HH.out.below hb) (x + i) (by have := HM.out; have := HN.out; unfold Key; omega)
      have hby : d.bytes x (i + 1) = d.bytes x i ++ d.seen (x + i) := rfl
      generalize d.seen (x + i) = s at *
      have HSE := Lib.hid hse
      have HSL := Lib.hid hsl
      have HBY := Lib.hid hby
      have hii : (i : Int) ≤ 65536 := by omega
      clear hsl hse hby
      go_wp2_with (first
        | (go_at_call 33; refine HSE.out.mono ?_; rintro e w4 ⟨rfl, hb4⟩
           have hown4 := ownsRow_bel hown hb4
           have hb04 := hb.trans (hb4.mono hb.size))
        | (refine wpL_new rfl rfl ?_; intro W5 b5 hb5 hr5 hg5 hz5)
        | (refine wpL_store rfl (.tmp 11) (.tmp 33) rfl rfl rfl hr5 rfl HSL.out ?_; intro W6 hr6 hg6 hz6
           have hown6 := (hown4.kept hg5 (by rcases hq : Value.ownBlock _ with _ | q; exact .inl rfl; exact .inr (fun e => by cases e))).kept hg6 (by
             rcases hq : Value.ownBlock _ with _ | q
             · exact .inl rfl
             · exact .inr (fun e => by have h1 := (hown4.lt q hq).2; have h2 := Option.some.inj e; have := hb5.out; omega))
           have hz46 : w4.heap.size ≤ W6.heap.size := Nat.le_trans hg5.size hg6.size
           have hb06 : Below w.heap.size w W6 := (hb04.grown hg5 hb04.size (fun q e => by cases e)).grown hg6 (Nat.le_trans hb04.size hg5.size) (fun q e => by have := Option.some.inj e; have := hb5.out; have := hb04.size; omega))
        | (at_builtin; refine wpL_app (m := 64) (y := .slice (some ⟨b5, 0, none⟩) 64 64) rfl (.tmp 34) (.tmp 35) _ _ rfl E_by rfl rfl hown6 ((rd_row hr6 HSL.out (by unfold maxLen; omega)).src Try.underlying31 (u8s_one _)) (by unfold maxLen; omega) (by omega) hb06.size ?_; intro v7 w7 hown7 hg7 hat7)
        | fail)
      go_roundw
      case rel => exact ⟨i + 1, by omega, by go_num, by rw [HBY.out, u8s_app, show 64 * (i + 1) = 64 * i + 64 from by omega]; exact hown7, hb06.grown hg7 hb06.size (fun q e => (hown6.lt q e).1)⟩
      case measure => simp [intOf]; omega
    · obtain rfl : i = m := by omega
      go_wp2
      go_ret2
      exact ⟨u9, rfl, hown, hb⟩

end Go.Proofs.Ytdmcbojncgdccaa
