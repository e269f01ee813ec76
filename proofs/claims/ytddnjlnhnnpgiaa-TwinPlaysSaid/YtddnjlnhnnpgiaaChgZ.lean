/- A device: a new one; its sectors in a row. What waits: a change as a value. -/
import Derived.Test.YtddnjlnhnnpgiaaDevd
namespace Go.Proofs.Ytddnjlnhnnpgiaa
set_option maxRecDepth 20000
open Go.RowKit

theorem E_by : Elem Try.prog 38 5 (.int .u8 0) 1 1 := Elem.mk_ Try.underlying38 (by kernel_rfl) rfl (by decide)
theorem rd_row {w : World} {g n : Nat} {e : TypeId} {xs : List UInt8} (h : w.heap[g]? = some (.cells (u8s xs).toArray e (0, 0))) (hn : xs.length = n) (hm : n ≤ maxLen) : Rd w w.heap.size 1 (some ⟨g, 0, none⟩) n n (u8s xs) :=
  ⟨Nat.le_refl _, hm, by rw [u8s_len]; omega, fun _ => ⟨g, 0, rfl, (Array.getElem?_eq_some_iff.1 h).1, fun j u hu => by
    rw [cell_of_row w g (0 + j) _ e (0, 0) h]
    simpa using hu⟩⟩
theorem ownsRow_bel {w w' : World} {base sz n : Nat} {e : TypeId} {v : Value} {xs : List Value} (h : w.ownsRow base e sz v n xs) (hb : Below w.heap.size w w') : w'.ownsRow base e sz v n xs := by
  refine h.kept (below_grown hb none) ?_
  cases v.ownBlock with
  | none => exact .inl rfl
  | some q => exact .inr (fun e => by cases e)

/-- So many sectors from one on. -/
def Dv.bytes (d : Dv) (x : Int) : Nat → List UInt8
  | 0 => []
  | i + 1 => d.bytes x i ++ d.seen (x + i)
theorem Dv.seen_len {d : Dv} (h : d.Ok) (x : Int) : (d.seen x).length = 64 := by
  unfold Dv.seen
  have key : ∀ ws : List (Int × List UInt8), (∀ p ∈ ws, p.2.length = 64) → ∀ f : Says, (∀ y s, f y = some s → s.length = 64) → ∀ y s, (ws.foldl (fun f p => fun y => if y = p.1 then some p.2 else f y) f) y = some s → s.length = 64 := by
    intro ws
    induction ws with
    | nil => intro _ f hf; exact hf
    | cons p ws ih =>
      intro hws f hf
      refine ih (fun q hq => hws q (List.mem_cons_of_mem _ hq)) _ ?_
      intro y s hs
      dsimp only at hs
      split at hs
      · cases hs; exact hws p List.mem_cons_self
      · exact hf y s hs
  cases hl : lastOf d.ws x with
  | none => exact h.S x
  | some s => exact key d.ws (fun p hp => (h.ws p hp).1) _ (fun y s e => by cases e) x s hl
theorem Dv.bytes_len {d : Dv} (h : d.Ok) (x : Int) (m : Nat) : (d.bytes x m).length = 64 * m := by
  induction m with
  | zero => rfl
  | succ m ih => rw [Dv.bytes, List.length_append, ih, Dv.seen_len h]; omega

theorem read_nil (x n : Int) (w : World) : Calls Try.prog 24 #[.pointer none, .int .i64 x, .int .i64 n] w fun e w' => e = .returned (.tuple #[.slice none 0 0, .int .i64 1]) ∧ w = w' := by
  go_enter Try.func24, Try.ntmps24
  go_wp2_with (go_at_call 45; refine (power_nil _).mono ?_; rintro e w1 ⟨rfl, rfl⟩)
  go_ret2
  exact ⟨rfl, rfl⟩
theorem read_down (g : Nat) (x n : Int) (w : World) (c4 : w.cell? ⟨g, 4, none⟩ = some (.bool true)) : Calls Try.prog 24 #[.pointer (some ⟨g, 0, none⟩), .int .i64 x, .int .i64 n] w fun e w' => e = .returned (.tuple #[.slice none 0 0, .int .i64 50]) ∧ w = w' := by
  go_enter Try.func24, Try.ntmps24
  go_wp2_with (go_at_call 45; refine (power_at g true _ c4).mono ?_; rintro e w1 ⟨rfl, rfl⟩)
  go_ret2
  exact ⟨rfl, rfl⟩
theorem read_out (g n : Nat) (x m : Int) (w : World) (c0 : w.cell? ⟨g, 0, none⟩ = some (.int .i64 (n : Int))) (c4 : w.cell? ⟨g, 4, none⟩ = some (.bool false)) (hn : n ≤ 65536) (hm : m ≤ 9223372036854775807) (hout : withinB n x m = false) :
    Calls Try.prog 24 #[.pointer (some ⟨g, 0, none⟩), .int .i64 x, .int .i64 m] w fun e w' => e = .returned (.tuple #[.slice none 0 0, .int .i64 30]) ∧ w = w' := by
  have hW := within_at g n x m w c0 hn hm
  rw [hout] at hW
  have HW := Lib.hid hW
  clear hW hout hm hn
  go_enter Try.func24, Try.ntmps24
  go_wp2_with (first
    | (go_at_call 45; refine (power_at g false _ c4).mono ?_; rintro e w1 ⟨rfl, rfl⟩)
    | (go_at_call 46; refine HW.out.mono ?_; rintro e w1 ⟨rfl, rfl⟩)
    | fail)
  go_ret2
  exact ⟨rfl, rfl⟩

set_option maxHeartbeats 2000000 in
set_option maxRecDepth 8000 in
theorem read_good {w : World} {B g bs bl k : Nat} {v : Value} {d : Dv} (h : Dev w B g bs bl v k d) (hd : d.down = false) (x : Int) (m : Nat) (hx : 0 ≤ x) (hm : x + m ≤ d.n) :
    Calls Try.prog 24 #[.pointer (some ⟨g, 0, none⟩), .int .i64 x, .int .i64 (m : Int)] w fun e w' => ∃ v, e = .returned (.tuple #[v, .int .i64 0]) ∧ w'.ownsRow w.heap.size 5 1 v (64 * m) (u8s (d.bytes x m)) ∧ Below w.heap.size w w' := by
  have c4 := h.c4
  rw [hd] at c4
  have hn := h.ok.n
  have hW := within_at g d.n x m w h.c0 hn (by omega)
  rw [show withinB d.n x m = true from by unfold withinB; simp; omega] at hW
  have HW := Lib.hid hW
  have HH := Lib.hid h
  have hmi : (m : Int) ≤ 65536 := by omega
  have hxi : x ≤ 65536 := by omega
  have HM := Lib.hid hm
  have HN := Lib.hid hn
  clear hW h hd hm hn
  go_enter Try.func24, Try.ntmps24
  go_wp2_with (first
    | (go_at_call 45; refine (power_at g false _ c4).mono ?_; rintro e w1 ⟨rfl, rfl⟩)
    | (go_at_call 46; refine HW.out.mono ?_; rintro e w1 ⟨rfl, rfl⟩)
    | (at_make; refine wpL_make0 rfl _ _ _ rfl (base := w.heap.size) E_by (m * 64) rfl rfl (by omega) (by omega) (by unfold maxLen; omega) (Nat.le_refl _) ?_; intro w3 hown3 hg3
       have hb3 : Below w.heap.size w w3 := (Below.refl _ _).grown hg3 (Nat.le_refl _) (fun j e => by cases e))
    | fail)
  clear hg3
  go_loopw [9, 26] (fun vr ir wr => ∃ i : Nat, i ≤ m ∧ ir = .int .i64 (i : Int) ∧ wr.ownsRow w.heap.size 5 1 vr (64 * i) (u8s (d.bytes x i)) ∧ Below w.heap.size w wr) (fun _ ir _ => m - (intOf ir).toNat)
  case atStart => exact ⟨0, Nat.zero_le _, rfl, hown3, hb3⟩
  case round =>
    obtain ⟨i, hi, rfl, hown, hb⟩ := hrel
    by_cases hlt : i < m
    · have hsl := Dv.seen_len HH.out.ok (x + i)
      have hse := seen_any (HH.out.below hb) (x + i) (by have := HM.out; have := HN.out; unfold Key; omega)
      have hby : d.bytes x (i + 1) = d.bytes x i ++ d.seen (x + i) := rfl
      generalize d.seen (x + i) = s at *
      have HSE := Lib.hid hse
      have HSL := Lib.hid hsl
      have HBY := Lib.hid hby
      have hii : (i : Int) ≤ 65536 := by omega
      clear hsl hse hby
      go_wp2_with (first
        | (go_at_call 47; refine HSE.out.mono ?_; rintro e w4 ⟨rfl, hb4⟩
           have hown4 := ownsRow_bel hown hb4
           have hb04 := hb.trans (hb4.mono hb.size))
        | (refine wpL_new rfl rfl ?_; intro W5 b5 hb5 hr5 hg5 hz5)
        | (refine wpL_store rfl (.tmp 11) (.tmp 33) rfl rfl rfl hr5 rfl HSL.out ?_; intro W6 hr6 hg6 hz6
           have hown6 := (hown4.kept hg5 (by rcases hq : Value.ownBlock _ with _ | q; exact .inl rfl; exact .inr (fun e => by cases e))).kept hg6 (by
             rcases hq : Value.ownBlock _ with _ | q
             · exact .inl rfl
             · exact .inr (fun e => by have h1 := (hown4.lt q hq).2; have h2 := Option.some.inj e; have := hb5.out; omega))
           have hz46 : w4.heap.size ≤ W6.heap.size := Nat.le_trans hg5.size hg6.size
           have hb06 : Below w.heap.size w W6 := (hb04.grown hg5 hb04.size (fun q e => by cases e)).grown hg6 (Nat.le_trans hb04.size hg5.size) (fun q e => by have := Option.some.inj e; have := hb5.out; have := hb04.size; omega))
        | (at_builtin; refine wpL_app (m := 64) (y := .slice (some ⟨b5, 0, none⟩) 64 64) rfl (.tmp 34) (.tmp 35) _ _ rfl E_by rfl rfl hown6 ((rd_row hr6 HSL.out (by unfold maxLen; omega)).src Try.underlying38 (u8s_one _)) (by unfold maxLen; omega) (by omega) hb06.size ?_; intro v7 w7 hown7 hg7 hat7)
        | fail)
      go_roundw
      case rel => exact ⟨i + 1, by omega, by go_num, by rw [HBY.out, u8s_app, show 64 * (i + 1) = 64 * i + 64 from by omega]; exact hown7, hb06.grown hg7 hb06.size (fun q e => (hown6.lt q e).1)⟩
      case measure => simp [intOf]; omega
    · obtain rfl : i = m := by omega
      go_wp2
      go_ret2
      exact ⟨u9, rfl, hown, hb⟩

end Go.Proofs.Ytddnjlnhnnpgiaa

namespace Go.Proofs.Ytddnjlnhnnpgiaa
set_option maxRecDepth 20000
open Go.RowKit

theorem fold_set (off : Nat) : ∀ (vs : List Value) (k : Nat) (cells : Array Value), off + k + vs.length ≤ cells.size →
    (vs.zipIdx k).foldl (fun cs (p : Value × Nat) => cs.setIfInBounds (off + p.2) p.1) cells = (cells.toList.take (off + k) ++ vs ++ cells.toList.drop (off + k + vs.length)).toArray := by
  intro vs
  induction vs with
  | nil =>
    intro k cells _
    simp
  | cons v vs ih =>
    intro k cells h
    simp only [List.length_cons] at h
    rw [List.zipIdx_cons, List.foldl_cons, ih (k + 1) _ (by simp; omega)]
    congr 1
    simp only [Array.toList_setIfInBounds, List.length_cons]
    have hl : off + k < cells.toList.length := by rw [Array.length_toList]; omega
    rw [← Nat.add_assoc, List.take_succ_eq_append_getElem (by rw [List.length_set]; exact hl), List.getElem_set_self, List.take_set_of_le (by omega), List.drop_set_of_lt (by omega)]
    simp only [List.append_assoc, List.cons_append, List.nil_append]
    rw [show off + k + (vs.length + 1) = off + k + 1 + vs.length from by omega]
def chgv (p : Int × List UInt8) : Value := .agg (chg p).toArray
theorem chgv_cells (p : Int × List UInt8) : (chgv p).cells = (chg p).toArray := rfl
theorem chg_len (p : Int × List UInt8) (h : p.2.length = 64) : (chg p).length = 65 := by simp [chg, u8s_len, h]
theorem chg_one (p : Int × List UInt8) : ∀ u ∈ chg p, u.oneCell' = true := by
  intro u hu
  rcases List.mem_cons.1 hu with rfl | hu
  · rfl
  · exact u8s_one _ u hu
theorem zero_chg (w : World) : (zeroValue 95).run Try.prog w = .ok (chgv (0, Z)) w := by kernel_rfl
theorem E_chg : Elem Try.prog 72 95 (chgv (0, Z)) 65 72 := Elem.mk_ Try.underlying72 (by kernel_rfl) rfl (by decide)
theorem places_chg (w : World) : ∃ fs, Try.prog.underlying 95 = some (.struct fs) ∧ (fs.mapM fun f => do pure (f.offset, ← Go.sizeOf f.type) : Sem (Array (Nat × Nat))).run Try.prog w = .ok #[(0, 1), (1, 64)] w := ⟨_, Try.underlying95, by kernel_rfl⟩
theorem fill_chg (x : Int) (s : List UInt8) (hs : s.length = 64) : Instr.fill (#[((0 : Nat), (1 : Nat)), (1, 64)][·]?) (chgv (0, Z)).cells [(0, .int .i64 x), (1, secv s)] = some (chg (x, s)).toArray := by
  have h1 : (secv s).cells.size = 64 := by rw [secv_cells]; simp [u8s_len, hs]
  have h0 : (Value.int .i64 x).cells.size = 1 := rfl
  have hz : (chgv (0, Z)).cells.size = 65 := rfl
  have e1 : (Value.cells (.int .i64 x)).zipIdx.foldl (fun cs (p : Value × Nat) => cs.setIfInBounds (0 + p.2) p.1) (chgv (0, Z)).cells = (.int .i64 x :: u8s Z).toArray := by rfl
  have e2 : (secv s).cells.zipIdx.foldl (fun cs (p : Value × Nat) => cs.setIfInBounds (1 + p.2) p.1) (.int .i64 x :: u8s Z).toArray = (chg (x, s)).toArray := by
    rw [secv_cells, ← Array.foldl_toList, Array.toList_zipIdx]
    have := fold_set 1 (u8s s) 0 (.int .i64 x :: u8s Z).toArray (by simp [u8s_len, hs, Z_len])
    rw [this]
    have hd : (u8s Z).drop (u8s s).length = [] := List.drop_of_length_le (by rw [u8s_len, u8s_len, hs, Z_len]; exact Nat.le_refl _)
    simp [chg, Nat.add_comm 1, hd]
  unfold Instr.fill
  simp only [List.getElem?_toArray, List.getElem?_cons_zero]
  rw [if_neg (by rw [h0, hz]; simp)]
  unfold Instr.fill
  simp only [List.getElem?_cons_succ, List.getElem?_cons_zero]
  rw [if_neg (by rw [h1, e1]; simp [u8s_len, Z_len])]
  unfold Instr.fill
  rw [e1]
  exact congrArg some e2
theorem build_chg (x : Int) (s : List UInt8) (hs : s.length = 64) (w : World) : (Instr.build 95 #[(0, .int .i64 x), (1, secv s)]).run Try.prog w = .ok (chgv (x, s)) w := by
  obtain ⟨fs, hu, hp⟩ := places_chg w
  have hf := fill_chg x s hs
  unfold Instr.build
  simp only [Sem.run_bind, zero_chg, Result.andThen_ok, run_underlying hu, hp, hf, Sem.run_pure]
  rfl
theorem buildSlice_chg (p : Int × List UInt8) (hp : p.2.length = 64) (w : World) : (Instr.buildSlice 72 1 #[(0, chgv p)]).run Try.prog w = .ok (.slice (some ⟨w.heap.size, 0, none⟩) 1 1) (w.alloc (.cells (chg p).toArray 95)) := by
  have hsz : (Go.sizeOf 95).run Try.prog w = .ok 65 w := by kernel_rfl
  have hl := chg_len p hp
  have hr : ((Array.range (1 * 65)).map ((chgv (0, Z)).cells[· % (chgv (0, Z)).cells.size]!)).size = 65 := by simp
  have hf : Instr.fill (fun i => some (i * 65, 65)) ((Array.range (1 * 65)).map ((chgv (0, Z)).cells[· % (chgv (0, Z)).cells.size]!)) [(0, chgv p)] = some (chg p).toArray := by
    generalize (Array.range (1 * 65)).map ((chgv (0, Z)).cells[· % (chgv (0, Z)).cells.size]!) = cs at *
    unfold Instr.fill
    simp only
    rw [if_neg (by rw [chgv_cells, hr]; simp [hl])]
    unfold Instr.fill
    congr 1
    rw [chgv_cells, ← Array.foldl_toList, Array.toList_zipIdx]
    have := fold_set (0 * 65) (chg p) 0 cs (by omega)
    rw [this]
    have hd : cs.toList.drop (0 * 65 + 0 + (chg p).length) = [] := List.drop_of_length_le (by rw [Array.length_toList]; omega)
    rw [hd]
    simp
  unfold Instr.buildSlice
  simp only [Sem.run_bind, run_underlying Try.underlying72, Result.andThen_ok, hsz]
  have hz : Try.zeroCells95 = (chg (0, Z)).toArray := by kernel_rfl
  have hz2 : Value.agg Try.zeroCells95 = chgv (0, Z) := congrArg Value.agg hz
  simp [Result.andThen, newRow]
  rw [hz2, show Array.range 65 = Array.range (1 * 65) from rfl, hf]
  simp


end Go.Proofs.Ytddnjlnhnnpgiaa
