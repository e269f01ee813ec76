/- A device: a new one, and what is read of it. A device: a new one; its sectors in a row. What waits: a change as a value. A device: a new one; what is copied; a change. A device: a change that waits. slices.Chunk's iterator, of bytes of any length. A device: what is written. A device: what is written, the walk. -/
import Derived.Test.YtpalmobmabkadaaGreatDoorDevcZM
import Derived.Test.YtpalmobmabkadaaGreatDoorFchunkZM
import Derived.Sort.QuietIn
namespace Go.Proofs.YtpalmobmabkadaaGreatDoor
set_option maxRecDepth 20000
open Go.RowKit

section
variable {P : Program} {w : World} {ops : Array Oper} {rest : List Oper} {o : Oper} {a : Act} {Q : Exit → Act → World → Prop}
/-- What a map says of a key, at its operation. -/
theorem wpL_look (hgd : o.guard = none) (ty : TypeId) (x y : Operand) (ok : Bool) (ho : o.op = .lookup ty x y ok) {p q v : Value} (hx : a.eval x = p) (hy : a.eval y = q) (hrun : (Instr.lookup ty p q ok).run P w = .ok v w) (h : wpList P ops Q rest (a.put o.dst v) w) : wpList P ops Q (o :: rest) a w := by
  refine wpList_plain hgd fun K hK => ?_
  unfold Oper.wp
  simp only [execOp, ho, hx, hy, Sem.run_bind, hrun, Result.andThen_ok, Sem.run_pure]
  exact hK _ _ h
end

set_option maxHeartbeats 1000000 in
set_option maxRecDepth 8000 in
theorem seen_any {w : World} {B g bs bl k : Nat} {v : Value} {d : Dv} (h : Dev w B g bs bl v k d) (x : Int) (hx : Key x) :
    Calls Tryz.prog 105 #[.pointer (some ⟨g, 0, none⟩), .int .i64 x] w fun e w' => e = .returned (secv (d.seen x)) ∧ Below w.heap.size w w' := by
  have hlook := fun (W : World) (hb : w.grownBy W none) => (h.new hb).last.lookOk Tryz.underlying3 Tryz.underlying90 (zero_sec W) Z_len x hx
  have hsafe := fun (W : World) (hb : w.grownBy W none) => (h.new hb).safe.look Tryz.underlying3 Tryz.underlying90 (zero_sec W) Z_len x hx
  have hseen : d.seen x = (lastOf d.ws x).getD (d.S x) := rfl
  simp only [nz_get] at hsafe
  have hl64 : ((lastOf d.ws x).getD Z).length = 64 := (hlook w (World.grownBy.refl w _)).2
  have hs64 := h.ok.S x
  have HH := Lib.hid h
  cases hl : lastOf d.ws x with
  | some s =>
    rw [hl] at hlook hl64 hseen
    simp only [Option.getD_some, Option.isSome_some] at hlook hl64 hseen
    rw [hseen]
    have HL := Lib.hid (fun W hb => (hlook W hb).1)
    have HS := Lib.hid hl64
    clear hlook hsafe hseen hl hl64 hs64 hx h
    go_enter Tryz.func105, Tryz.ntmps105
    go_wp2_with (first
      | (refine wpL_new (o := ⟨some 4, _, _, _, _, _⟩) rfl rfl ?_; intro W1 b1 hb1 hr1 hg1 hz1; have c3 := (HH.out.new hg1).c3)
      | (refine wpL_look rfl _ (.tmp 11) (.tmp 12) true rfl rfl rfl (HL.out W1 hg1) ?_)
      | (refine wpL_new (o := ⟨some 5, _, _, _, _, _⟩) rfl rfl ?_; intro W2 b2 hb2 hr2 hg2 hz2; have hr12 := row_far hr1 hg2 (fun e => by cases e))
      | (refine wpL_store rfl (.tmp 5) (.tmp 14) rfl rfl rfl hr2 rfl HS.out ?_; intro W3 hr3 hg3 hz3; have hr13 := row_far hr12 hg3 (fun e => by have := Option.some.inj e; have := hb2.out; have := hz1.out; omega))
      | (refine wpL_load rfl (.tmp 5) rfl rfl hr3 HS.out ?_)
      | (refine wpL_store rfl (.tmp 4) (.tmp 17) rfl rfl rfl hr13 rfl HS.out ?_; intro W4 hr4 hg4 hz4)
      | fail)
    have h1 := hb1.out
    have h2 := hb2.out
    have h3 := hz1.out
    have h4 := hz2.out
    have h5 := hz3.out
    have hb : Below w.heap.size w W4 := ((((Below.refl _ _).grown hg1 (Nat.le_refl _) (fun k e => by cases e)).grown hg2 (by omega) (fun k e => by cases e)).grown hg3 (by omega) (fun k e => by have := Option.some.inj e; omega)).grown hg4 (by omega) (fun k e => by have := Option.some.inj e; omega)
    refine bodyPost_ret (results_cell_row (fn := Tryz.f105) rfl _ W4 b1 _ _ (0, 0) _ rfl hr4 Tryz.underlying99 rfl (by rw [size_sec]; simp [u8s_len, HS.out])) rfl ⟨rfl, hb⟩
  | none =>
    rw [hl] at hlook hseen
    simp only [Option.getD_none, Option.isSome_none] at hlook hseen
    rw [hseen]
    have HL := Lib.hid (fun W hb => (hlook W hb).1)
    have HSF := Lib.hid (fun W hb => (hsafe W hb).1)
    have HS := Lib.hid hs64
    clear hlook hsafe hseen hl hl64 hs64 hx h
    generalize d.S x = s at *
    go_enter Tryz.func105, Tryz.ntmps105
    go_wp2_with (first
      | (refine wpL_new (o := ⟨some 4, _, _, _, _, _⟩) rfl rfl ?_; intro W1 b1 hb1 hr1 hg1 hz1; have c3 := (HH.out.new hg1).c3)
      | (refine wpL_look rfl _ (.tmp 11) (.tmp 12) true rfl rfl rfl (HL.out W1 hg1) ?_)
      | (refine wpL_new (o := ⟨some 5, _, _, _, _, _⟩) rfl rfl ?_; intro W2 b2 hb2 hr2 hg2 hz2; have hr12 := row_far hr1 hg2 (fun e => by cases e))
      | (refine wpL_store rfl (.tmp 5) (.tmp 14) rfl rfl rfl hr2 rfl Z_len ?_; intro W3 hr3 hg3 hz3; have hr13 := row_far hr12 hg3 (fun e => by have := Option.some.inj e; have := hb2.out; have := hz1.out; omega)
         have hg03 : w.grownBy W3 none := ⟨by rw [hg3.os, hg2.os, hg1.os], by rw [hg3.tape, hg2.tape, hg1.tape], by rw [hg3.output, hg2.output, hg1.output], by have := hz1.out; have := hz2.out; have := hz3.out; have := hb1.out; have := hb2.out; omega, fun i hi _ => (hg3.block i (by have := hz1.out; have := hz2.out; have := hb1.out; have := hb2.out; omega) (fun e => by have := Option.some.inj e; have := hb2.out; have := hz1.out; have := hb1.out; omega)).trans ((hg2.block i (by have := hz1.out; have := hb1.out; omega) (fun e => by cases e)).trans (hg1.block i hi (fun e => by cases e)))⟩
         have c1 := (HH.out.new hg03).c1)
      | (refine wpL_look rfl _ (.tmp 21) (.tmp 22) false rfl rfl rfl (HSF.out W3 hg03) ?_)
      | (refine wpL_store rfl (.tmp 4) (.tmp 23) rfl rfl rfl hr13 rfl HS.out ?_; intro W4 hr4 hg4 hz4)
      | fail)
    have h1 := hb1.out
    have h2 := hb2.out
    have h3 := hz1.out
    have h4 := hz2.out
    have h5 := hz3.out
    have hb : Below w.heap.size w W4 := ((Below.refl _ _).grown hg03 (Nat.le_refl _) (fun k e => by cases e)).grown hg4 (by omega) (fun k e => by have := Option.some.inj e; omega)
    refine bodyPost_ret (results_cell_row (fn := Tryz.f105) rfl _ W4 b1 _ _ (0, 0) _ rfl hr4 Tryz.underlying99 rfl (by rw [size_sec]; simp [u8s_len, HS.out])) rfl ⟨rfl, hb⟩

end Go.Proofs.YtpalmobmabkadaaGreatDoor

namespace Go.Proofs.YtpalmobmabkadaaGreatDoor
set_option maxRecDepth 20000
open Go.RowKit

theorem E_by : Elem Tryz.prog 86 5 (.int .u8 0) 1 1 := Elem.mk_ Tryz.underlying86 (by kernel_rfl) rfl (by decide)
theorem rd_row {w : World} {g n : Nat} {e : TypeId} {xs : List UInt8} (h : w.heap[g]? = some (.cells (u8s xs).toArray e (0, 0))) (hn : xs.length = n) (hm : n ≤ maxLen) : Rd w w.heap.size 1 (some ⟨g, 0, none⟩) n n (u8s xs) :=
  ⟨Nat.le_refl _, hm, by rw [u8s_len]; omega, fun _ => ⟨g, 0, rfl, (Array.getElem?_eq_some_iff.1 h).1, fun j u hu => by
    rw [cell_of_row w g (0 + j) _ e (0, 0) h]
    simpa using hu⟩⟩
theorem ownsRow_bel {w w' : World} {base sz n : Nat} {e : TypeId} {v : Value} {xs : List Value} (h : w.ownsRow base e sz v n xs) (hb : Below w.heap.size w w') : w'.ownsRow base e sz v n xs := by
  refine h.kept (below_grown hb none) ?_
  cases v.ownBlock with
  | none => exact .inl rfl
  | some q => exact .inr (fun e => by cases e)

/-- So many sectors from one on. -/
def Dv.bytes (d : Dv) (x : Int) : Nat → List UInt8
  | 0 => []
  | i + 1 => d.bytes x i ++ d.seen (x + i)
theorem Dv.seen_len {d : Dv} (h : d.Ok) (x : Int) : (d.seen x).length = 64 := by
  unfold Dv.seen
  have key : ∀ ws : List (Int × List UInt8), (∀ p ∈ ws, p.2.length = 64) → ∀ f : Says, (∀ y s, f y = some s → s.length = 64) → ∀ y s, (ws.foldl (fun f p => fun y => if y = p.1 then some p.2 else f y) f) y = some s → s.length = 64 := by
    intro ws
    induction ws with
    | nil => intro _ f hf; exact hf
    | cons p ws ih =>
      intro hws f hf
      refine ih (fun q hq => hws q (List.mem_cons_of_mem _ hq)) _ ?_
      intro y s hs
      dsimp only at hs
      split at hs
      · cases hs; exact hws p List.mem_cons_self
      · exact hf y s hs
  cases hl : lastOf d.ws x with
  | none => exact h.S x
  | some s => exact key d.ws (fun p hp => (h.ws p hp).1) _ (fun y s e => by cases e) x s hl
theorem Dv.bytes_len {d : Dv} (h : d.Ok) (x : Int) (m : Nat) : (d.bytes x m).length = 64 * m := by
  induction m with
  | zero => rfl
  | succ m ih => rw [Dv.bytes, List.length_append, ih, Dv.seen_len h]; omega

theorem read_nil (x n : Int) (w : World) : Calls Tryz.prog 68 #[.pointer none, .int .i64 x, .int .i64 n] w fun e w' => e = .returned (.tuple #[.slice none 0 0, .int .i64 1]) ∧ w = w' := by
  go_enter Tryz.func68, Tryz.ntmps68
  go_wp2_with (go_at_call 95; refine (power_nil _).mono ?_; rintro e w1 ⟨rfl, rfl⟩)
  go_ret2
  exact ⟨rfl, rfl⟩
theorem read_down (g : Nat) (x n : Int) (w : World) (c4 : w.cell? ⟨g, 4, none⟩ = some (.bool true)) : Calls Tryz.prog 68 #[.pointer (some ⟨g, 0, none⟩), .int .i64 x, .int .i64 n] w fun e w' => e = .returned (.tuple #[.slice none 0 0, .int .i64 50]) ∧ w = w' := by
  go_enter Tryz.func68, Tryz.ntmps68
  go_wp2_with (go_at_call 95; refine (power_at g true _ c4).mono ?_; rintro e w1 ⟨rfl, rfl⟩)
  go_ret2
  exact ⟨rfl, rfl⟩
theorem read_out (g n : Nat) (x m : Int) (w : World) (c0 : w.cell? ⟨g, 0, none⟩ = some (.int .i64 (n : Int))) (c4 : w.cell? ⟨g, 4, none⟩ = some (.bool false)) (hn : n ≤ 65536) (hm : m ≤ 9223372036854775807) (hout : withinB n x m = false) :
    Calls Tryz.prog 68 #[.pointer (some ⟨g, 0, none⟩), .int .i64 x, .int .i64 m] w fun e w' => e = .returned (.tuple #[.slice none 0 0, .int .i64 30]) ∧ w = w' := by
  have hW := within_at g n x m w c0 hn hm
  rw [hout] at hW
  have HW := Lib.hid hW
  clear hW hout hm hn
  go_enter Tryz.func68, Tryz.ntmps68
  go_wp2_with (first
    | (go_at_call 95; refine (power_at g false _ c4).mono ?_; rintro e w1 ⟨rfl, rfl⟩)
    | (go_at_call 104; refine HW.out.mono ?_; rintro e w1 ⟨rfl, rfl⟩)
    | fail)
  go_ret2
  exact ⟨rfl, rfl⟩

set_option maxHeartbeats 2000000 in
set_option maxRecDepth 8000 in
theorem read_good {w : World} {B g bs bl k : Nat} {v : Value} {d : Dv} (h : Dev w B g bs bl v k d) (hd : d.down = false) (x : Int) (m : Nat) (hx : 0 ≤ x) (hm : x + m ≤ d.n) :
    Calls Tryz.prog 68 #[.pointer (some ⟨g, 0, none⟩), .int .i64 x, .int .i64 (m : Int)] w fun e w' => ∃ v, e = .returned (.tuple #[v, .int .i64 0]) ∧ w'.ownsRow w.heap.size 5 1 v (64 * m) (u8s (d.bytes x m)) ∧ Below w.heap.size w w' := by
  have c4 := h.c4
  rw [hd] at c4
  have hn := h.ok.n
  have hW := within_at g d.n x m w h.c0 hn (by omega)
  rw [show withinB d.n x m = true from by unfold withinB; simp; omega] at hW
  have HW := Lib.hid hW
  have HH := Lib.hid h
  have hmi : (m : Int) ≤ 65536 := by omega
  have hxi : x ≤ 65536 := by omega
  have HM := Lib.hid hm
  have HN := Lib.hid hn
  clear hW h hd hm hn
  go_enter Tryz.func68, Tryz.ntmps68
  go_wp2_with (first
    | (go_at_call 95; refine (power_at g false _ c4).mono ?_; rintro e w1 ⟨rfl, rfl⟩)
    | (go_at_call 104; refine HW.out.mono ?_; rintro e w1 ⟨rfl, rfl⟩)
    | (at_make; refine wpL_make0 rfl _ _ _ rfl (base := w.heap.size) E_by (m * 64) rfl rfl (by omega) (by omega) (by unfold maxLen; omega) (Nat.le_refl _) ?_; intro w3 hown3 hg3
       have hb3 : Below w.heap.size w w3 := (Below.refl _ _).grown hg3 (Nat.le_refl _) (fun j e => by cases e))
    | fail)
  clear hg3
  go_loopw [9, 26] (fun vr ir wr => ∃ i : Nat, i ≤ m ∧ ir = .int .i64 (i : Int) ∧ wr.ownsRow w.heap.size 5 1 vr (64 * i) (u8s (d.bytes x i)) ∧ Below w.heap.size w wr) (fun _ ir _ => m - (intOf ir).toNat)
  case atStart => exact ⟨0, Nat.zero_le _, rfl, hown3, hb3⟩
  case round =>
    obtain ⟨i, hi, rfl, hown, hb⟩ := hrel
    by_cases hlt : i < m
    · have hsl := Dv.seen_len HH.out.ok (x + i)
      have hse := seen_any (HH.out.below hb) (x + i) (by have := HM.out; have := HN.out; unfold Key; omega)
      have hby : d.bytes x (i + 1) = d.bytes x i ++ d.seen (x + i) := rfl
      generalize d.seen (x + i) = s at *
      have HSE := Lib.hid hse
      have HSL := Lib.hid hsl
      have HBY := Lib.hid hby
      have hii : (i : Int) ≤ 65536 := by omega
      clear hsl hse hby
      go_wp2_with (first
        | (go_at_call 105; refine HSE.out.mono ?_; rintro e w4 ⟨rfl, hb4⟩
           have hown4 := ownsRow_bel hown hb4
           have hb04 := hb.trans (hb4.mono hb.size))
        | (refine wpL_new rfl rfl ?_; intro W5 b5 hb5 hr5 hg5 hz5)
        | (refine wpL_store rfl (.tmp 11) (.tmp 33) rfl rfl rfl hr5 rfl HSL.out ?_; intro W6 hr6 hg6 hz6
           have hown6 := (hown4.kept hg5 (by rcases hq : Value.ownBlock _ with _ | q; exact .inl rfl; exact .inr (fun e => by cases e))).kept hg6 (by
             rcases hq : Value.ownBlock _ with _ | q
             · exact .inl rfl
             · exact .inr (fun e => by have h1 := (hown4.lt q hq).2; have h2 := Option.some.inj e; have := hb5.out; omega))
           have hz46 : w4.heap.size ≤ W6.heap.size := Nat.le_trans hg5.size hg6.size
           have hb06 : Below w.heap.size w W6 := (hb04.grown hg5 hb04.size (fun q e => by cases e)).grown hg6 (Nat.le_trans hb04.size hg5.size) (fun q e => by have := Option.some.inj e; have := hb5.out; have := hb04.size; omega))
        | (at_builtin; refine wpL_app (m := 64) (y := .slice (some ⟨b5, 0, none⟩) 64 64) rfl (.tmp 34) (.tmp 35) _ _ rfl E_by rfl rfl hown6 ((rd_row hr6 HSL.out (by unfold maxLen; omega)).src Tryz.underlying86 (u8s_one _)) (by unfold maxLen; omega) (by omega) hb06.size ?_; intro v7 w7 hown7 hg7 hat7)
        | fail)
      go_roundw
      case rel => exact ⟨i + 1, by omega, by go_num, by rw [HBY.out, u8s_app, show 64 * (i + 1) = 64 * i + 64 from by omega]; exact hown7, hb06.grown hg7 hb06.size (fun q e => (hown6.lt q e).1)⟩
      case measure => simp [intOf]; omega
    · obtain rfl : i = m := by omega
      go_wp2
      go_ret2
      exact ⟨u9, rfl, hown, hb⟩

end Go.Proofs.YtpalmobmabkadaaGreatDoor

namespace Go.Proofs.YtpalmobmabkadaaGreatDoor
set_option maxRecDepth 20000
open Go.RowKit

theorem fold_set (off : Nat) : ∀ (vs : List Value) (k : Nat) (cells : Array Value), off + k + vs.length ≤ cells.size →
    (vs.zipIdx k).foldl (fun cs (p : Value × Nat) => cs.setIfInBounds (off + p.2) p.1) cells = (cells.toList.take (off + k) ++ vs ++ cells.toList.drop (off + k + vs.length)).toArray := by
  intro vs
  induction vs with
  | nil =>
    intro k cells _
    simp
  | cons v vs ih =>
    intro k cells h
    simp only [List.length_cons] at h
    rw [List.zipIdx_cons, List.foldl_cons, ih (k + 1) _ (by simp; omega)]
    congr 1
    simp only [Array.toList_setIfInBounds, List.length_cons]
    have hl : off + k < cells.toList.length := by rw [Array.length_toList]; omega
    rw [← Nat.add_assoc, List.take_succ_eq_append_getElem (by rw [List.length_set]; exact hl), List.getElem_set_self, List.take_set_of_le (by omega), List.drop_set_of_lt (by omega)]
    simp only [List.append_assoc, List.cons_append, List.nil_append]
    rw [show off + k + (vs.length + 1) = off + k + 1 + vs.length from by omega]
def chgv (p : Int × List UInt8) : Value := .agg (chg p).toArray
theorem chgv_cells (p : Int × List UInt8) : (chgv p).cells = (chg p).toArray := rfl
theorem chg_len (p : Int × List UInt8) (h : p.2.length = 64) : (chg p).length = 65 := by simp [chg, u8s_len, h]
theorem chg_one (p : Int × List UInt8) : ∀ u ∈ chg p, u.oneCell' = true := by
  intro u hu
  rcases List.mem_cons.1 hu with rfl | hu
  · rfl
  · exact u8s_one _ u hu
theorem zero_chg (w : World) : (zeroValue 101).run Tryz.prog w = .ok (chgv (0, Z)) w := by kernel_rfl
theorem E_chg : Elem Tryz.prog 91 101 (chgv (0, Z)) 65 72 := Elem.mk_ Tryz.underlying91 (by kernel_rfl) rfl (by decide)
theorem places_chg (w : World) : ∃ fs, Tryz.prog.underlying 101 = some (.struct fs) ∧ (fs.mapM fun f => do pure (f.offset, ← Go.sizeOf f.type) : Sem (Array (Nat × Nat))).run Tryz.prog w = .ok #[(0, 1), (1, 64)] w := ⟨_, Tryz.underlying101, by kernel_rfl⟩
theorem fill_chg (x : Int) (s : List UInt8) (hs : s.length = 64) : Instr.fill (#[((0 : Nat), (1 : Nat)), (1, 64)][·]?) (chgv (0, Z)).cells [(0, .int .i64 x), (1, secv s)] = some (chg (x, s)).toArray := by
  have h1 : (secv s).cells.size = 64 := by rw [secv_cells]; simp [u8s_len, hs]
  have h0 : (Value.int .i64 x).cells.size = 1 := rfl
  have hz : (chgv (0, Z)).cells.size = 65 := rfl
  have e1 : (Value.cells (.int .i64 x)).zipIdx.foldl (fun cs (p : Value × Nat) => cs.setIfInBounds (0 + p.2) p.1) (chgv (0, Z)).cells = (.int .i64 x :: u8s Z).toArray := by rfl
  have e2 : (secv s).cells.zipIdx.foldl (fun cs (p : Value × Nat) => cs.setIfInBounds (1 + p.2) p.1) (.int .i64 x :: u8s Z).toArray = (chg (x, s)).toArray := by
    rw [secv_cells, ← Array.foldl_toList, Array.toList_zipIdx]
    have := fold_set 1 (u8s s) 0 (.int .i64 x :: u8s Z).toArray (by simp [u8s_len, hs, Z_len])
    rw [this]
    have hd : (u8s Z).drop (u8s s).length = [] := List.drop_of_length_le (by rw [u8s_len, u8s_len, hs, Z_len]; exact Nat.le_refl _)
    simp [chg, Nat.add_comm 1, hd]
  unfold Instr.fill
  simp only [List.getElem?_toArray, List.getElem?_cons_zero]
  rw [if_neg (by rw [h0, hz]; simp)]
  unfold Instr.fill
  simp only [List.getElem?_cons_succ, List.getElem?_cons_zero]
  rw [if_neg (by rw [h1, e1]; simp [u8s_len, Z_len])]
  unfold Instr.fill
  rw [e1]
  exact congrArg some e2
theorem build_chg (x : Int) (s : List UInt8) (hs : s.length = 64) (w : World) : (Instr.build 101 #[(0, .int .i64 x), (1, secv s)]).run Tryz.prog w = .ok (chgv (x, s)) w := by
  obtain ⟨fs, hu, hp⟩ := places_chg w
  have hf := fill_chg x s hs
  unfold Instr.build
  simp only [Sem.run_bind, zero_chg, Result.andThen_ok, run_underlying hu, hp, hf, Sem.run_pure]
  rfl
theorem buildSlice_chg (p : Int × List UInt8) (hp : p.2.length = 64) (w : World) : (Instr.buildSlice 91 1 #[(0, chgv p)]).run Tryz.prog w = .ok (.slice (some ⟨w.heap.size, 0, none⟩) 1 1) (w.alloc (.cells (chg p).toArray 101)) := by
  have hsz : (Go.sizeOf 101).run Tryz.prog w = .ok 65 w := by kernel_rfl
  have hl := chg_len p hp
  have hr : ((Array.range (1 * 65)).map ((chgv (0, Z)).cells[· % (chgv (0, Z)).cells.size]!)).size = 65 := by simp
  have hf : Instr.fill (fun i => some (i * 65, 65)) ((Array.range (1 * 65)).map ((chgv (0, Z)).cells[· % (chgv (0, Z)).cells.size]!)) [(0, chgv p)] = some (chg p).toArray := by
    generalize (Array.range (1 * 65)).map ((chgv (0, Z)).cells[· % (chgv (0, Z)).cells.size]!) = cs at *
    unfold Instr.fill
    simp only
    rw [if_neg (by rw [chgv_cells, hr]; simp [hl])]
    unfold Instr.fill
    congr 1
    rw [chgv_cells, ← Array.foldl_toList, Array.toList_zipIdx]
    have := fold_set (0 * 65) (chg p) 0 cs (by omega)
    rw [this]
    have hd : cs.toList.drop (0 * 65 + 0 + (chg p).length) = [] := List.drop_of_length_le (by rw [Array.length_toList]; omega)
    rw [hd]
    simp
  unfold Instr.buildSlice
  simp only [Sem.run_bind, run_underlying Tryz.underlying91, Result.andThen_ok, hsz]
  have hz : Tryz.zeroCells101 = (chg (0, Z)).toArray := by kernel_rfl
  have hz2 : Value.agg Tryz.zeroCells101 = chgv (0, Z) := congrArg Value.agg hz
  simp [Result.andThen, newRow]
  rw [hz2, show Array.range 65 = Array.range (1 * 65) from rfl, hf]
  simp


end Go.Proofs.YtpalmobmabkadaaGreatDoor

namespace Go.Proofs.YtpalmobmabkadaaGreatDoor
set_option maxRecDepth 20000
open Go.RowKit

/-- copy into a whole block, as many as there are. -/
theorem run_cpy {w : World} {g n dc m cc B : Nat} {e : TypeId} {cur : Array Value} {A : Option Addr} {l : List UInt8} (hr : w.heap[g]? = some (.cells cur e (0, 0))) (hs : Rd w B 1 A m cc (u8s l)) (hn : n ≤ cur.size) (ty : TypeId) :
    (Builtin.copy_ #[86, 86] ty #[.slice (some ⟨g, 0, none⟩) n dc, .slice A m cc]).run Tryz.prog w = .ok (goInt ((min m n : Nat) : Int)) (w.setRow g (u8s (l.take (min m n)) ++ cur.toList.drop (min m n)).toArray) := by
  obtain ⟨q, hq⟩ : ∃ q, q = min m n := ⟨_, rfl⟩
  have hml := hs.len
  rw [u8s_len] at hml
  have hlq : (u8s (l.take q)).length = q := by rw [u8s_len, List.length_take]; omega
  have hfirst : (Builtin.firstCells 1 q (.slice A m cc)).run Tryz.prog w = .ok (u8s (l.take q)).toArray w := by
    cases A with
    | none =>
      have hm0 : m = 0 := by
        rcases Nat.eq_zero_or_pos m with h | h
        · exact h
        · obtain ⟨b, o, e, _⟩ := hs.2.2.2 h; cases e
      have hq0 : q = 0 := by omega
      subst hq0
      exact run_firstCells_none w 1 0 m cc
    | some a =>
      refine run_firstCells_some w 1 q a m cc _ (by rw [hlq, Nat.mul_one]) fun j v hv => ?_
      have hj : j < q := by rw [← hlq]; exact (List.getElem?_eq_some_iff.1 hv).1
      obtain ⟨b, o, he, _, hc⟩ := hs.2.2.2 (by omega)
      cases he
      rw [addOff]
      refine hc j v ?_
      rw [u8s_take, List.getElem?_take, if_pos hj] at hv
      exact hv
  have hst := run_storeCells_at Tryz.prog g 0 e (u8s (l.take q)) 0 cur w hr (by rw [hlq]; omega) (u8s_one _)
  simp only [Nat.add_zero, Nat.zero_add, List.take_zero, List.nil_append, hlq] at hst
  have hsz : (Go.sizeOf 5).run Tryz.prog w = .ok 1 w := by kernel_rfl
  have hmin : Nat.min m n = q := hq.symm
  rw [← hq]
  simp [Builtin.copy_, run_underlying Tryz.underlying86, Builtin.lenOf, hsz, hmin, hfirst, hst, Result.andThen]
theorem wpL_cpy {w : World} {ops : Array Oper} {rest : List Oper} {o : Oper} {a : Act} {Q : Exit → Act → World → Prop} (hgd : o.guard = none) (s x : Operand)
    (ho : o.op = .call { callee := .builtin .copy, args := #[s, x], argTypes := #[86, 86] })
    {g n dc m cc B : Nat} {e : TypeId} {cur : Array Value} {A : Option Addr} {l : List UInt8} (hs : a.eval s = .slice (some ⟨g, 0, none⟩) n dc) (hx : a.eval x = .slice A m cc) (hr : w.heap[g]? = some (.cells cur e (0, 0))) (hsrc : Rd w B 1 A m cc (u8s l)) (hn : n ≤ cur.size)
    (h : ∀ W : World, W.heap[g]? = some (.cells (u8s (l.take (min m n)) ++ cur.toList.drop (min m n)).toArray e (0, 0)) → w.grownBy W (some g) → Hid (W.heap.size = w.heap.size) → wpList Tryz.prog ops Q rest (a.put o.dst (goInt ((min m n : Nat) : Int))) W) :
    wpList Tryz.prog ops Q (o :: rest) a w := by
  refine wpList_plain hgd fun K hK => ?_
  have hrun := run_cpy hr hsrc hn o.type (dc := dc)
  unfold Oper.wp execOp
  simp only [ho, resolve, invoke, builtin, Sem.run_bind, Sem.run_pure, Result.andThen_ok, List.map_toArray, List.map_cons, List.map_nil, hs, hx, hrun]
  exact hK _ _ (h _ (setRow_heap w g cur _ e _ hr) ⟨rfl, rfl, rfl, by simp, fun k _ hk => setRow_other w g k _ (fun e => hk (by rw [e]))⟩ (Lib.hid (by simp)))

def Dv.new (n : Nat) : Dv := { n := n, S := fun _ => Z, ws := [], down := false, fuse := 0, done := 0 }
theorem Dv.new_ok (n : Nat) (h : n ≤ 65536) : (Dv.new n).Ok := ⟨h, fun _ => rfl, (fun p hp => by cases hp), (show (0 : Nat) < 18446744073709551616 by omega)⟩
set_option maxRecDepth 8000 in
theorem new_good (n : Nat) (w : World) (h1 : 1 ≤ n) (hn : n ≤ 65536) :
    Calls Tryz.prog 11 #[.int .i64 (n : Int)] w fun e w' => ∃ F g, e = .returned (.pointer (some ⟨g, 0, none⟩)) ∧ Dvc w' w.heap.size g F (Dv.new n) ∧ Below w.heap.size w w' := by
  have d1 : decide ((n : Int) < 1) = false := by simp; omega
  have d2 : decide ((65536 : Int) < (n : Int)) = false := by simp; omega
  obtain ⟨W, hW⟩ : ∃ W, W = ((w.alloc (.map #[] 0)).alloc (.map #[] 0)).alloc (.cells #[.int .i64 (n : Int), .map (some w.heap.size), .slice none 0 0, .map (some (w.heap.size + 1)), .bool false, .int .u64 0, .int .i64 0] 93) := ⟨_, rfl⟩
  have hg := heap_alloc_new ((w.alloc (.map #[] 0)).alloc (.map #[] 0)) (.cells #[.int .i64 (n : Int), .map (some w.heap.size), .slice none 0 0, .map (some (w.heap.size + 1)), .bool false, .int .u64 0, .int .i64 0] 93)
  rw [← hW] at hg
  have hz2 : ((w.alloc (.map #[] 0)).alloc (.map #[] 0)).heap.size = w.heap.size + 2 := by simp
  rw [hz2] at hg
  have hnz : nz (Dv.new n).S = fun _ => none := by funext x; unfold nz Dv.new; simp
  have ms : MapI Tryz.prog 3 W w.heap.size 0 (nz (Dv.new n).S) := by
    rw [hnz, hW]
    exact ((mapI_made w).kept (World.grownBy_alloc _ _ none) (fun e => by cases e)).kept (World.grownBy_alloc _ _ none) (fun e => by cases e)
  have ml : MapI Tryz.prog 3 W (w.heap.size + 1) 0 (lastOf (Dv.new n).ws) := by
    rw [hW]
    have := mapI_made (P := Tryz.prog) (k := 3) (w.alloc (.map #[] 0))
    rw [show (w.alloc (.map #[] 0)).heap.size = w.heap.size + 1 from by simp] at this
    exact this.kept (World.grownBy_alloc _ _ none) (fun e => by cases e)
  have hb : Below w.heap.size w W := by rw [hW]; exact (((Below.refl _ _).alloc (Nat.le_refl _) _).alloc (by simp) _).alloc (by simp; omega) _
  have hdev : Dev W w.heap.size (w.heap.size + 2) w.heap.size (w.heap.size + 1) (.slice none 0 0) 0 (Dv.new n) :=
    ⟨hg, ms, ml, World.ownsRow_nil _ _ _ _, by omega, by omega, by omega, (fun k e => by cases e), by omega, by omega, by omega, Dv.new_ok n hn⟩
  have HD := Lib.hid hdev
  have HB := Lib.hid hb
  have HW := Lib.hid hW
  have hmm := @run_makeMap Tryz.prog
  clear hdev hb ms ml hnz hz2 hg hW h1 hn
  go_enter Tryz.func11, Tryz.ntmps11
  go_wp2
  rw [← HW.out]
  go_ret
  exact ⟨_, w.heap.size + 2, rfl, ⟨_, _, _, 0, HD.out, Nat.le_refl _, fun i => Iff.rfl⟩, HB.out⟩

end Go.Proofs.YtpalmobmabkadaaGreatDoor

namespace Go.Proofs.YtpalmobmabkadaaGreatDoor
set_option maxRecDepth 20000
open Go.RowKit

theorem ite_ok {c : Prop} [Decidable c] {A B : Prop} (h : c) (k : A) : if c then A else B := by rw [if_pos h]; exact k
section
variable {P : Program} {ops : Array Oper} {C : World → Prop} {o : Oper} {rest : List Oper} {a : Act} {w : World} {Q : Exit → Act → World → Prop}
/-- An operation that runs to a value. -/
theorem wp_run {K : Act → World → Prop} {v : Value} {w' : World} (hrun : (execOp a.eval o).run P w = .ok (.value v) w') (h : K (a.put o.dst v) w') : o.wp P a w K Q := by
  unfold Oper.wp
  rw [hrun]
  exact h
theorem wp_skip {K : Act → World → Prop} {w' : World} (hrun : (execOp a.eval o).run P w = .ok .skip w') (h : K (a.put o.dst undef) w') : o.wp P a w K Q := by
  unfold Oper.wp
  rw [hrun]
  exact h
theorem wp_load1 {K : Act → World → Prop} (ty : TypeId) (x : Operand) (ho : o.op = .load ty x) {p v : Value} (hx : a.eval x = p) (hrun : (Instr.loadAt ty p).run P w = .ok v w) (h : K (a.put o.dst v) w) : o.wp P a w K Q :=
  wp_run (by simp only [execOp, ho, hx, Sem.run_bind, hrun, Result.andThen_ok, Sem.run_pure]) h
theorem wp_bslice {K : Act → World → Prop} (ty : TypeId) (n : Nat) (x : Operand) (ho : o.op = .buildSlice ty n #[(0, x)]) {p v : Value} {w' : World} (hx : a.eval x = p) (hrun : (Instr.buildSlice ty n #[(0, p)]).run P w = .ok v w') (h : K (a.put o.dst v) w') : o.wp P a w K Q :=
  wp_run (by simp only [execOp, ho, List.map_toArray, List.map_cons, List.map_nil, hx, Sem.run_bind, hrun, Result.andThen_ok, Sem.run_pure]) h
theorem wp_store1 {K : Act → World → Prop} (ty : TypeId) (x y : Operand) (ho : o.op = .store ty x y) {p q : Value} {w' : World} (hx : a.eval x = p) (hy : a.eval y = q) (hrun : (Instr.storeAt ty p q).run P w = .ok () w') (h : K (a.put o.dst undef) w') : o.wp P a w K Q :=
  wp_skip (by simp only [execOp, ho, hx, hy, Sem.run_bind, hrun, Result.andThen_ok, Sem.run_pure]) h
theorem wp_update {K : Act → World → Prop} (ty : TypeId) (x y z : Operand) (ho : o.op = .mapUpdate ty x y z) {p q r : Value} {w' : World} (hx : a.eval x = p) (hy : a.eval y = q) (hz : a.eval z = r) (hrun : (Instr.mapUpdate ty p q r).run P w = .ok () w') (h : K (a.put o.dst undef) w') : o.wp P a w K Q :=
  wp_skip (by simp only [execOp, ho, hx, hy, hz, Sem.run_bind, hrun, Result.andThen_ok, Sem.run_pure]) h
theorem wpQ_build {K : Act → Prop} (hgd : o.guard = none) (ty : TypeId) (x y : Operand) (ho : o.op = .build ty #[(0, x), (1, y)]) {p q v : Value} (hx : a.eval x = p) (hy : a.eval y = q) (hrun : ∀ w, (Instr.build ty #[(0, p), (1, q)]).run P w = .ok v w) (h : wpQuiet P ops C K rest (a.put o.dst v)) : wpQuiet P ops C K (o :: rest) a :=
  wpQ_val hgd v (fun w hw => by simp [execOp, ho, hx, hy, hrun w, Result.andThen]) h
/-- append, at its operation. -/
theorem wp_app {K : Act → World → Prop} (s x : Operand) (t tx : TypeId)
    (ho : o.op = .call { callee := .builtin .append, args := #[s, x], argTypes := #[t, tx] })
    {base m n sz bt : Nat} {e : TypeId} {z v y : Value} {xs news : List Value} (hT : Elem P t e z sz bt) (hs : a.eval s = v) (hx : a.eval x = y) (hown : w.ownsRow base e sz v n xs) (hsrc : Src P sz tx y m news w)
    (h63 : n + m ≤ maxLen) (hbytes : (n + m) * bt ≤ 140737488355328) (hbase : base ≤ w.heap.size)
    (h : ∀ v' w', w'.ownsRow base e sz v' (n + m) (xs ++ news) → w.grownBy w' v.ownBlock → (v'.ownBlock = v.ownBlock ∨ v'.ownBlock = some w.heap.size) → K (a.put o.dst v') w') : o.wp P a w K Q := by
  obtain ⟨v', w', hr, h1, h2, h3⟩ := run_app (ty := o.type) hT hown hsrc h63 hbytes hbase
  unfold Oper.wp execOp
  simp only [ho, resolve, invoke, builtin, Sem.run_bind, Sem.run_pure, Result.andThen_ok, List.map_toArray, List.map_cons, List.map_nil, hs, hx, hr]
  exact h _ _ h1 h2 h3
/-- A drawn region as a tree, in which no block but those of F turns. -/
theorem wp_treeF {id : Nat} {l : List Oper} (F : Nat → Prop) (t : Seg) (hm : P.follows .mixedOrders = true)
    (hok : (Region.noSelect l.toArray && (t.ok .any l.toArray (Array.replicate l.toArray.size false) && decide (t.steps ≤ l.toArray.size))) = true)
    (hQ : ∀ (d : Option Tmp) v c a w, Q (.panic c) (a.put d v) w → Q (.panic c) a w) (h : ∀ wd, Below w.heap.size w wd → wpTree P l.toArray Q (fun x => Keeps F w x) t a wd) : (Code.region id l.toArray true).wp P Q a w := by
  simp only [Bool.and_eq_true, decide_eq_true_eq] at hok
  exact wp_region_held hm (tree_sound hok.1 hQ t _ _ a _ hok.2.1 hok.2.2 (Keeps.refl _ _).drew (h _ (Below.refl _ _).drew))
end

theorem load_waits {w : World} {g : Nat} {v : Value} (h : w.cell? ⟨g, 2, none⟩ = some v) : (Instr.loadAt 91 (.pointer (some ⟨g, 2, none⟩))).run Tryz.prog w = .ok v w := by
  have hl : (loadVar 91 ⟨g, 2, none⟩).run Tryz.prog w = .ok v w := by go_simp
  simp only [Instr.loadAt, Instr.sureAddr, Sem.run_bind, Sem.run_pure, Result.andThen_ok, hl]
theorem store_waits {w : World} {g : Nat} {cs : Array Value} {e : TypeId} (h : w.heap[g]? = some (.cells cs e (0, 0))) (hc : cs.size = 7) (A : Option Addr) (n c : Nat) : (Instr.storeAt 91 (.pointer (some ⟨g, 2, none⟩)) (.slice A n c)).run Tryz.prog w = .ok () (w.setCell ⟨g, 2, none⟩ (.slice A n c)) := by
  have c2 : w.cell? ⟨g, 2, none⟩ = some cs[2] := by rw [cell_of_row w g 2 cs e (0, 0) h]; exact Array.getElem?_eq_getElem (by omega)
  have f2 := frozen_of_row w g 2 cs e h
  go_simp
/-- A sector's bytes, out of a part. -/
def pad (l : List UInt8) : List UInt8 := l ++ Z.drop l.length
theorem pad_len (l : List UInt8) (h : l.length ≤ 64) : (pad l).length = 64 := by unfold pad; rw [List.length_append, List.length_drop, Z_len]; omega
def Dv.chg (d : Dv) (p : Int × List UInt8) : Dv := { d with ws := d.ws ++ [p] }
theorem Dv.Ok.chg {d : Dv} (h : d.Ok) (p : Int × List UInt8) (hp : p.2.length = 64 ∧ 0 ≤ p.1 ∧ p.1 < d.n) : (d.chg p).Ok :=
  ⟨h.n, h.S, (fun q hq => by rcases List.mem_append.1 hq with h1 | h1; exact h.ws q h1; obtain rfl := List.mem_singleton.1 h1; exact hp), h.fuse⟩
theorem rd_chg {w : World} {g : Nat} {e : TypeId} {p : Int × List UInt8} (h : w.heap[g]? = some (.cells (chg p).toArray e (0, 0))) (hp : p.2.length = 64) : Rd w w.heap.size 65 (some ⟨g, 0, none⟩) 1 1 (chg p) :=
  ⟨Nat.le_refl _, by unfold maxLen; omega, by rw [chg_len p hp], fun _ => ⟨g, 0, rfl, (Array.getElem?_eq_some_iff.1 h).1, fun j u hu => by
    rw [cell_of_row w g (0 + j) _ e (0, 0) h]
    simpa using hu⟩⟩

set_option maxHeartbeats 4000000 in
set_option maxRecDepth 8000 in
theorem change_any {w : World} {B g bs bl k : Nat} {v : Value} {d : Dv} (h : Dev w B g bs bl v k d) (hdn : d.done ≤ 900000000) (hwl : d.ws.length ≤ 1000000) (x : Int) (hx0 : 0 ≤ x) (hxn : x < d.n) (A : Option Addr) (n c : Nat) (l : List UInt8) (hl : Rd w w.heap.size 1 A n c (u8s l)) (hn : n ≤ 64) :
    Calls Tryz.prog 123 #[.pointer (some ⟨g, 0, none⟩), .int .i64 x, .slice A n c] w fun e w' => e = .returned (.int .i64 (pw (d.chg (x, pad l)).step.down)) ∧ ∃ v', Dev w' B g bs bl v' k (d.chg (x, pad l)).step ∧ Keeps (Foot g bs bl v) w w' ∧ (v'.ownBlock = v.ownBlock ∨ ∀ q, v'.ownBlock = some q → w.heap.size ≤ q) := by
  have hln : l.length = n := by have := hl.len; rwa [u8s_len] at this
  have hp64 := pad_len l (by omega)
  have hBw : B ≤ w.heap.size := Nat.le_trans h.hg (Nat.le_of_lt h.lt)
  have hpad : ((u8s (l.take (min n 64)) ++ (u8s Z).toArray.toList.drop (min n 64)) : List Value) = u8s (pad l) := by
    have e1 : min n 64 = l.length := by omega
    rw [e1, List.take_of_length_le (Nat.le_refl _)]
    unfold pad
    rw [u8s_app, u8s_drop]
  obtain ⟨s, hs⟩ : ∃ s, s = pad l := ⟨_, rfl⟩
  rw [← hs] at hp64 hpad
  rw [← hs]
  have HP := Lib.hid hp64
  have HPD := Lib.hid hpad
  have HH := Lib.hid h
  have HL := Lib.hid hl
  have HN := Lib.hid hn
  have hxk : Key x := by have := h.ok.n; unfold Key; omega
  have HXK := Lib.hid hxk
  have hgl : g < w.heap.size := h.lt
  have hbl : bl < w.heap.size := h.last.lt
  have hbs : bs < w.heap.size := h.safe.lt
  have hDN := Lib.hid hdn
  have hWL := Lib.hid hwl
  have HX := Lib.hid (And.intro hx0 hxn)
  clear hp64 hpad hs hl hln hn hxk hdn hwl hx0 hxn h
  go_enter Tryz.func123, Tryz.ntmps123
  go_wp2_with (first
    | (refine wpL_new rfl rfl ?_; intro W1 b1 hb1 hr1 hg1 hz1)
    | (refine wpL_cpy rfl (.tmp 8) (.tmp 9) rfl rfl rfl hr1 (HL.out.keep (fun b o hb => World.cell?_of_block (a := ⟨b, o, none⟩) (hg1.block b hb (fun e => by cases e)))) (Nat.le_refl 64) ?_
       intro W2 hr2 hg2 hz2
       rw [HPD.out] at hr2)
    | fail)
  have hD2 : Dev W2 B g bs bl v k d := (HH.out.new hg1).keeps (Keeps.one hg2) (fun i hi hf => by
    have := ((HH.out.new hg1).foot_lt hf).2
    have h1 := (HH.out.foot_lt (i := i) hf).2
    have := hb1.out
    omega)
  have hbne : ∀ i, Foot g bs bl v i → i ≠ b1 := fun i hf => by have h1 := (HH.out.foot_lt hf).2; have := hb1.out; omega
  have hK02 : Keeps (Foot g bs bl v) w W2 := ((Keeps.refl _ _).grown hg1 (fun k e => by cases e)).grown hg2 (fun k e => .inr (by have := Option.some.inj e; have := hb1.out; omega))
  refine wp_treeF (fun i => i = g ∨ v.ownBlock = some i) (.two [0, 1, 2, 3, 5, 6, 7] 4 8 (.one [] 8 (.one [] 9 (.one [10, 11] 12 (.fin [])))) (.one [] 4 (.one [] 9 (.one [10, 11] 12 (.fin []))))) (by kernel_rfl) (by kernel_rfl) (fun d _ _ _ _ h => by cases d <;> exact h) fun wd hbd => ?_
  have hFb1 : ¬ (b1 = g ∨ v.ownBlock = some b1) := by
    rintro (e | e)
    · exact hbne g (.inl rfl) e.symm
    · exact hbne b1 (.inr (.inr (.inr e))) rfl
  intro f hf
  have F1 : ∀ x, (∃ z, x = f z) → (Instr.loadAt 99 (.pointer (some ⟨b1, 0, none⟩))).run Tryz.prog x = .ok (secv s) x := by
    rintro x ⟨z, rfl⟩
    exact load_sec ((hf z).row hr2 hFb1) HP.out
  have HF1 := Lib.hid F1
  clear F1
  simp only [pickI, Option.toList_some, List.cons_append, List.nil_append, List.getElem?_toArray, List.getElem?_cons_succ, List.getElem?_cons_zero]
  iterate 5 go_big_quiet_step (fail)
  refine wpQ_load rfl _ (.tmp 7) rfl rfl HF1.out ?_
  go_frame
  refine wpQ_build rfl _ (.tmp 16) (.tmp 17) rfl rfl rfl (build_chg x s HP.out) ?_
  go_frame
  refine wpQuiet_nil ?_
  clear HF1 hf f
  have hDd := hD2.below hbd
  have c2d := hDd.c2
  have hKd : Keeps (fun i => i = g ∨ v.ownBlock = some i) W2 wd := Keeps.of_below hbd
  have hbs := buildSlice_chg (x, s) HP.out wd
  obtain ⟨W3, hW3⟩ : ∃ W3, W3 = wd.alloc (.cells (chg (x, s)).toArray 101) := ⟨_, rfl⟩
  obtain ⟨b3, hb3⟩ : ∃ b3, b3 = wd.heap.size := ⟨_, rfl⟩
  rw [← hW3, ← hb3] at hbs
  have hg3 : wd.grownBy W3 none := by rw [hW3]; exact World.grownBy_alloc _ _ _
  have hr3 : W3.heap[b3]? = some (.cells (chg (x, s)).toArray 101 (0, 0)) := by rw [hW3, hb3]; exact heap_alloc_new wd _
  have hK3 : Keeps (fun i => i = g ∨ v.ownBlock = some i) W2 W3 := hKd.grown hg3 (fun k e => by cases e)
  have hD3 := hDd.new hg3
  have c2e := hD3.c2
  have HB3 := Lib.hid hb3
  clear hW3 hb3
  have hrd3 := rd_chg hr3 HP.out
  have hBW3 : B ≤ W3.heap.size := Nat.le_trans hBw (Nat.le_trans hK02.size hK3.size)
  constructor
  · refine seg_op (by simp only [List.getElem?_toArray, List.getElem?_cons_succ, List.getElem?_cons_zero]; rfl) fun K hK => ?_
    refine ite_ok rfl ?_
    refine wp_load1 _ (.tmp 14) rfl rfl (load_waits c2d) ?_
    refine hK.out _ _ ⟨hKd, ?_⟩
    clear hK K
    go_frame
    intro f hf
    refine wpQuiet_nil ?_
    clear hf f
    refine seg_op (by simp only [List.getElem?_toArray, List.getElem?_cons_succ, List.getElem?_cons_zero]; rfl) fun K hK => ?_
    refine ite_ok rfl ?_
    refine wp_bslice _ 1 (.tmp 18) rfl rfl hbs ?_
    refine hK.out _ _ ⟨hK3, ?_⟩
    clear hK K
    go_frame

    intro f hf
    refine wpQuiet_nil ?_
    clear hf f
    refine seg_op (by simp only [List.getElem?_toArray, List.getElem?_cons_succ, List.getElem?_cons_zero]; rfl) fun K hK => ?_
    refine ite_ok rfl ?_
    refine wp_app (.tmp 15) (.tmp 19) _ _ rfl E_chg (m := 1) rfl rfl hD3.waits (hrd3.src Tryz.underlying91 (chg_one _)) (by have := hWL.out; unfold maxLen; omega) (by have := hWL.out; omega) (Nat.le_trans hBW3 (Nat.le_refl _)) ?_
    intro v4 W4 hown4 hg4 hat4
    have hK4 : Keeps (fun i => i = g ∨ v.ownBlock = some i) W2 W4 := hK3.grown hg4 (fun q e => .inl (.inr e))
    refine hK.out _ _ ⟨hK4, ?_⟩
    clear hK K
    go_frame
    intro f hf
    simp only [pickI, Option.toList_some, List.cons_append, List.nil_append, List.getElem?_toArray, List.getElem?_cons_succ, List.getElem?_cons_zero]
    iterate 2 go_big_quiet_step (fail)
    refine wpQuiet_nil ?_
    clear hf f
    have hrow4 := row_far hD3.row hg4 (fun e => (hD3.vg g e.symm).1 rfl)
    obtain ⟨A4, c4, rfl⟩ := ownsRow_form hown4
    have hst := store_waits hrow4 rfl A4 (d.ws.length + 1) c4
    have hrow5 := set_row hrow4 2 (.slice A4 (d.ws.length + 1) c4)
    have hg5 := setCell_grows W4 g 2 (.slice A4 (d.ws.length + 1) c4)
    generalize W4.setCell ⟨g, 2, none⟩ (.slice A4 (d.ws.length + 1) c4) = W5 at *
    refine seg_op (by simp only [List.getElem?_toArray, List.getElem?_cons_succ, List.getElem?_cons_zero]; rfl) fun K hK => ?_
    refine ite_ok rfl ?_
    refine wp_store1 _ (.tmp 22) (.tmp 20) rfl rfl rfl hst ?_
    have hK5 : Keeps (fun i => i = g ∨ v.ownBlock = some i) W2 W5 := hK4.grown hg5 (fun q e => .inl (.inl (Option.some.inj e).symm))
    refine hK.out _ _ ⟨hK5, ?_⟩
    clear hK K
    go_frame
    intro f hf
    refine wpQuiet_nil ?_
    clear hf f
    have hrow6 : W5.heap[g]? = some (.cells (devRow (d.chg (x, s)) bs bl (.slice A4 (d.ws.length + 1) c4)) 93 (0, 0)) := hrow5
    have hvl : some bl ≠ v.ownBlock := fun e => (hD3.vg bl e.symm).2.2 rfl
    have hvs : some bs ≠ v.ownBlock := fun e => (hD3.vg bs e.symm).2.1 rfl
    have hml := (hD3.last.kept hg4 hvl).kept hg5 (fun e => hD3.gl (Option.some.inj e).symm)
    have hms := (hD3.safe.kept hg4 hvs).kept hg5 (fun e => hD3.gs (Option.some.inj e).symm)
    have hown5 := hown4.kept hg5 (by
      cases hq : Value.ownBlock (.slice A4 (d.ws.length + 1) c4) with
      | none => exact .inl rfl
      | some q =>
        refine .inr (fun e => ?_)
        have e1 := Option.some.inj e
        rcases hat4 with h1 | h1
        · exact (hD3.vg q (h1 ▸ hq)).1 e1
        · rw [hq] at h1
          have := Option.some.inj h1
          have := hD3.lt
          omega)
    have hb15 := hK5.row hr2 hFb1
    have hlt5 : bl < W5.heap.size := hml.lt
    have hglt5 : g < W5.heap.size := (Array.getElem?_eq_some_iff.1 hrow6).1
    have c35 : W5.cell? ⟨g, 3, none⟩ = some (.map (some bl)) := cell_of_row W5 g 3 _ _ _ hrow6
    have hgl' := hD3.gl
    have hb1l : b1 ≠ bl := fun e => hbne bl (.inr (.inr (.inl rfl))) e.symm
    have HOWN := Lib.hid hown5
    have HROW := Lib.hid hrow6
    have HMS := Lib.hid hms
    have HAT := Lib.hid hat4
    clear hown5 hrow6 hms hat4 hrow5 hrow4 hg4 hown4
    go_wp2
    refine wp_keeps (fun i => i = bl) [([0, 1, 2, 3, 4, 5], 6)] [] (by kernel_rfl) (by kernel_rfl) (fun d _ _ _ _ h => by cases d <;> exact h) fun we hbe => ?_
    intro f hf
    have F1 : ∀ x, (∃ z, x = f z) → (Instr.loadAt 99 (.pointer (some ⟨b1, 0, none⟩))).run Tryz.prog x = .ok (secv s) x := by
      rintro x ⟨z, rfl⟩
      exact load_sec ((hf z).row hb15 hb1l) HP.out
    have HF1 := Lib.hid F1
    clear F1
    have F2 := fun z => (hf z).cell c35 hgl'
    simp only [pickI, Option.toList_some, List.cons_append, List.nil_append, List.getElem?_toArray, List.getElem?_cons_succ, List.getElem?_cons_zero]
    iterate 5 go_big_quiet_step (fail)
    refine wpQ_load rfl _ (.tmp 7) rfl rfl HF1.out ?_
    go_frame
    refine wpQuiet_nil ?_
    clear HF1 F2 hf f
    have hml6 := hml.same (hbe.block bl hlt5)
    obtain ⟨W6, hput, hm6, hg6, hz6⟩ := hml6.put Tryz.underlying3 Tryz.underlying90 (by have := hWL.out; unfold maxLen; omega) x HXK.out s HP.out
    have hD6 : Dev W6 B g bs bl (.slice A4 (d.ws.length + 1) c4) k (d.chg (x, s)) := by
      have hlen : (d.chg (x, s)).ws.length = d.ws.length + 1 := by unfold Dv.chg; simp
      have hbw : ∀ {i : Nat} {o : Obj}, i ≠ bl → W5.heap[i]? = some o → W6.heap[i]? = some o := fun hi ho => row_far (row_below ho hbe) hg6 (fun e => hi (Option.some.inj e))
      have hnew : ∀ q, Value.ownBlock (.slice A4 (d.ws.length + 1) c4) = some q → q ≠ g ∧ q ≠ bs ∧ q ≠ bl := by
        intro q hq
        rcases HAT.out with h1 | h1
        · exact hD3.vg q (h1 ▸ hq)
        · rw [hq] at h1
          have e1 := Option.some.inj h1
          have := hD3.lt
          have := hD3.safe.lt
          have := hD3.last.lt
          omega
      refine ⟨hbw hgl' HROW.out, ?_, ?_, ?_, hD3.gs, hD3.gl, hD3.sl, hnew, hD3.hg, hD3.hs, hD3.hl, hD3.ok.chg (x, s) ⟨HP.out, HX.out.1, HX.out.2⟩⟩
      · exact (HMS.out.same (hbe.block bs HMS.out.lt)).kept hg6 (fun e => hD3.sl (Option.some.inj e))
      · rw [hlen]
        unfold Dv.chg
        rw [lastOf_snoc]
        exact hm6
      · rw [hlen]
        unfold Dv.chg
        rw [chgs_snoc]
        exact (ownsRow_bel HOWN.out hbe).kept hg6 (by
          cases hq : Value.ownBlock (.slice A4 (d.ws.length + 1) c4) with
          | none => exact .inl rfl
          | some q => exact .inr (fun e => (hnew q hq).2.2 (Option.some.inj e)))
    have HD6 := Lib.hid hD6
    have HK6 := Lib.hid ((Keeps.of_below (F := fun i => i = bl) hbe).trans (Keeps.one hg6) (fun i hi => .inl hi))
    clear hD6 hm6 hz6 hml6
    refine seg_op (by simp only [List.getElem?_toArray, List.getElem?_cons_succ, List.getElem?_cons_zero]; rfl) fun K hK => ?_
    refine ite_ok rfl ?_
    refine wp_update _ (.tmp 26) (.tmp 27) (.tmp 28) rfl rfl rfl rfl hput ?_
    refine hK.out _ _ (seg_keep HK6.out ?_)
    clear hK K
    go_frame
    intro f hf
    refine wpQuiet_nil ?_
    clear hf f
    have hst := step_any HD6.out (show (d.chg (x, s)).done ≤ 1000000000 from by have := hDN.out; exact Nat.le_trans this (by omega))
    have HST := Lib.hid hst
    clear hst hput
    go_wp2_with (go_at_call 96; refine HST.out.mono ?_; rintro e w9 ⟨rfl, hD9, hg9⟩)
    go_ret
    have hFF : ∀ i, (i = g ∨ v.ownBlock = some i) → Foot g bs bl v i ∨ w.heap.size ≤ i := fun i hi => hi.elim (fun e => .inl (.inl e)) (fun e => .inl (.inr (.inr (.inr e))))
    have hK05 := hK02.trans hK5 hFF
    have hK06 := hK05.trans HK6.out (fun i hi => .inl (.inr (.inr (.inl hi))))
    have hK09 := hK06.grown hg9 (fun q e => .inl (.inl (Option.some.inj e).symm))
    refine ⟨rfl, _, hD9, hK09, ?_⟩
    rcases HAT.out with h1 | h1
    · exact .inl h1
    · refine .inr (fun q hq => ?_)
      rw [h1] at hq
      have := Option.some.inj hq
      have := hK02.size
      have := hK3.size
      omega
  · refine seg_op (by simp only [List.getElem?_toArray, List.getElem?_cons_succ, List.getElem?_cons_zero]; rfl) fun K hK => ?_
    refine ite_ok rfl ?_
    refine wp_bslice _ 1 (.tmp 18) rfl rfl hbs ?_
    refine hK.out _ _ ⟨hK3, ?_⟩
    clear hK K
    go_frame
    intro f hf
    refine wpQuiet_nil ?_
    clear hf f
    refine seg_op (by simp only [List.getElem?_toArray, List.getElem?_cons_succ, List.getElem?_cons_zero]; rfl) fun K hK => ?_
    refine ite_ok rfl ?_
    refine wp_load1 _ (.tmp 14) rfl rfl (load_waits c2e) ?_
    refine hK.out _ _ ⟨hK3, ?_⟩
    clear hK K
    go_frame

    intro f hf
    refine wpQuiet_nil ?_
    clear hf f
    refine seg_op (by simp only [List.getElem?_toArray, List.getElem?_cons_succ, List.getElem?_cons_zero]; rfl) fun K hK => ?_
    refine ite_ok rfl ?_
    refine wp_app (.tmp 15) (.tmp 19) _ _ rfl E_chg (m := 1) rfl rfl hD3.waits (hrd3.src Tryz.underlying91 (chg_one _)) (by have := hWL.out; unfold maxLen; omega) (by have := hWL.out; omega) (Nat.le_trans hBW3 (Nat.le_refl _)) ?_
    intro v4 W4 hown4 hg4 hat4
    have hK4 : Keeps (fun i => i = g ∨ v.ownBlock = some i) W2 W4 := hK3.grown hg4 (fun q e => .inl (.inr e))
    refine hK.out _ _ ⟨hK4, ?_⟩
    clear hK K
    go_frame
    intro f hf
    simp only [pickI, Option.toList_some, List.cons_append, List.nil_append, List.getElem?_toArray, List.getElem?_cons_succ, List.getElem?_cons_zero]
    iterate 2 go_big_quiet_step (fail)
    refine wpQuiet_nil ?_
    clear hf f
    have hrow4 := row_far hD3.row hg4 (fun e => (hD3.vg g e.symm).1 rfl)
    obtain ⟨A4, c4, rfl⟩ := ownsRow_form hown4
    have hst := store_waits hrow4 rfl A4 (d.ws.length + 1) c4
    have hrow5 := set_row hrow4 2 (.slice A4 (d.ws.length + 1) c4)
    have hg5 := setCell_grows W4 g 2 (.slice A4 (d.ws.length + 1) c4)
    generalize W4.setCell ⟨g, 2, none⟩ (.slice A4 (d.ws.length + 1) c4) = W5 at *
    refine seg_op (by simp only [List.getElem?_toArray, List.getElem?_cons_succ, List.getElem?_cons_zero]; rfl) fun K hK => ?_
    refine ite_ok rfl ?_
    refine wp_store1 _ (.tmp 22) (.tmp 20) rfl rfl rfl hst ?_
    have hK5 : Keeps (fun i => i = g ∨ v.ownBlock = some i) W2 W5 := hK4.grown hg5 (fun q e => .inl (.inl (Option.some.inj e).symm))
    refine hK.out _ _ ⟨hK5, ?_⟩
    clear hK K
    go_frame
    intro f hf
    refine wpQuiet_nil ?_
    clear hf f
    have hrow6 : W5.heap[g]? = some (.cells (devRow (d.chg (x, s)) bs bl (.slice A4 (d.ws.length + 1) c4)) 93 (0, 0)) := hrow5
    have hvl : some bl ≠ v.ownBlock := fun e => (hD3.vg bl e.symm).2.2 rfl
    have hvs : some bs ≠ v.ownBlock := fun e => (hD3.vg bs e.symm).2.1 rfl
    have hml := (hD3.last.kept hg4 hvl).kept hg5 (fun e => hD3.gl (Option.some.inj e).symm)
    have hms := (hD3.safe.kept hg4 hvs).kept hg5 (fun e => hD3.gs (Option.some.inj e).symm)
    have hown5 := hown4.kept hg5 (by
      cases hq : Value.ownBlock (.slice A4 (d.ws.length + 1) c4) with
      | none => exact .inl rfl
      | some q =>
        refine .inr (fun e => ?_)
        have e1 := Option.some.inj e
        rcases hat4 with h1 | h1
        · exact (hD3.vg q (h1 ▸ hq)).1 e1
        · rw [hq] at h1
          have := Option.some.inj h1
          have := hD3.lt
          omega)
    have hb15 := hK5.row hr2 hFb1
    have hlt5 : bl < W5.heap.size := hml.lt
    have hglt5 : g < W5.heap.size := (Array.getElem?_eq_some_iff.1 hrow6).1
    have c35 : W5.cell? ⟨g, 3, none⟩ = some (.map (some bl)) := cell_of_row W5 g 3 _ _ _ hrow6
    have hgl' := hD3.gl
    have hb1l : b1 ≠ bl := fun e => hbne bl (.inr (.inr (.inl rfl))) e.symm
    have HOWN := Lib.hid hown5
    have HROW := Lib.hid hrow6
    have HMS := Lib.hid hms
    have HAT := Lib.hid hat4
    clear hown5 hrow6 hms hat4 hrow5 hrow4 hg4 hown4
    go_wp2
    refine wp_keeps (fun i => i = bl) [([0, 1, 2, 3, 4, 5], 6)] [] (by kernel_rfl) (by kernel_rfl) (fun d _ _ _ _ h => by cases d <;> exact h) fun we hbe => ?_
    intro f hf
    have F1 : ∀ x, (∃ z, x = f z) → (Instr.loadAt 99 (.pointer (some ⟨b1, 0, none⟩))).run Tryz.prog x = .ok (secv s) x := by
      rintro x ⟨z, rfl⟩
      exact load_sec ((hf z).row hb15 hb1l) HP.out
    have HF1 := Lib.hid F1
    clear F1
    have F2 := fun z => (hf z).cell c35 hgl'
    simp only [pickI, Option.toList_some, List.cons_append, List.nil_append, List.getElem?_toArray, List.getElem?_cons_succ, List.getElem?_cons_zero]
    iterate 5 go_big_quiet_step (fail)
    refine wpQ_load rfl _ (.tmp 7) rfl rfl HF1.out ?_
    go_frame
    refine wpQuiet_nil ?_
    clear HF1 F2 hf f
    have hml6 := hml.same (hbe.block bl hlt5)
    obtain ⟨W6, hput, hm6, hg6, hz6⟩ := hml6.put Tryz.underlying3 Tryz.underlying90 (by have := hWL.out; unfold maxLen; omega) x HXK.out s HP.out
    have hD6 : Dev W6 B g bs bl (.slice A4 (d.ws.length + 1) c4) k (d.chg (x, s)) := by
      have hlen : (d.chg (x, s)).ws.length = d.ws.length + 1 := by unfold Dv.chg; simp
      have hbw : ∀ {i : Nat} {o : Obj}, i ≠ bl → W5.heap[i]? = some o → W6.heap[i]? = some o := fun hi ho => row_far (row_below ho hbe) hg6 (fun e => hi (Option.some.inj e))
      have hnew : ∀ q, Value.ownBlock (.slice A4 (d.ws.length + 1) c4) = some q → q ≠ g ∧ q ≠ bs ∧ q ≠ bl := by
        intro q hq
        rcases HAT.out with h1 | h1
        · exact hD3.vg q (h1 ▸ hq)
        · rw [hq] at h1
          have e1 := Option.some.inj h1
          have := hD3.lt
          have := hD3.safe.lt
          have := hD3.last.lt
          omega
      refine ⟨hbw hgl' HROW.out, ?_, ?_, ?_, hD3.gs, hD3.gl, hD3.sl, hnew, hD3.hg, hD3.hs, hD3.hl, hD3.ok.chg (x, s) ⟨HP.out, HX.out.1, HX.out.2⟩⟩
      · exact (HMS.out.same (hbe.block bs HMS.out.lt)).kept hg6 (fun e => hD3.sl (Option.some.inj e))
      · rw [hlen]
        unfold Dv.chg
        rw [lastOf_snoc]
        exact hm6
      · rw [hlen]
        unfold Dv.chg
        rw [chgs_snoc]
        exact (ownsRow_bel HOWN.out hbe).kept hg6 (by
          cases hq : Value.ownBlock (.slice A4 (d.ws.length + 1) c4) with
          | none => exact .inl rfl
          | some q => exact .inr (fun e => (hnew q hq).2.2 (Option.some.inj e)))
    have HD6 := Lib.hid hD6
    have HK6 := Lib.hid ((Keeps.of_below (F := fun i => i = bl) hbe).trans (Keeps.one hg6) (fun i hi => .inl hi))
    clear hD6 hm6 hz6 hml6
    refine seg_op (by simp only [List.getElem?_toArray, List.getElem?_cons_succ, List.getElem?_cons_zero]; rfl) fun K hK => ?_
    refine ite_ok rfl ?_
    refine wp_update _ (.tmp 26) (.tmp 27) (.tmp 28) rfl rfl rfl rfl hput ?_
    refine hK.out _ _ (seg_keep HK6.out ?_)
    clear hK K
    go_frame
    intro f hf
    refine wpQuiet_nil ?_
    clear hf f
    have hst := step_any HD6.out (show (d.chg (x, s)).done ≤ 1000000000 from by have := hDN.out; exact Nat.le_trans this (by omega))
    have HST := Lib.hid hst
    clear hst hput
    go_wp2_with (go_at_call 96; refine HST.out.mono ?_; rintro e w9 ⟨rfl, hD9, hg9⟩)
    go_ret
    have hFF : ∀ i, (i = g ∨ v.ownBlock = some i) → Foot g bs bl v i ∨ w.heap.size ≤ i := fun i hi => hi.elim (fun e => .inl (.inl e)) (fun e => .inl (.inr (.inr (.inr e))))
    have hK05 := hK02.trans hK5 hFF
    have hK06 := hK05.trans HK6.out (fun i hi => .inl (.inr (.inr (.inl hi))))
    have hK09 := hK06.grown hg9 (fun q e => .inl (.inl (Option.some.inj e).symm))
    refine ⟨rfl, _, hD9, hK09, ?_⟩
    rcases HAT.out with h1 | h1
    · exact .inl h1
    · refine .inr (fun q hq => ?_)
      rw [h1] at hq
      have := Option.some.inj hq
      have := hK02.size
      have := hK3.size
      omega

end Go.Proofs.YtpalmobmabkadaaGreatDoor

namespace Go.Proofs.YtpalmobmabkadaaGreatDoor
set_option maxRecDepth 20000
open Go.RowKit
attribute [local go_sem] Oper.semAt_some

/-- The chunk number k. -/
def chunkw (b o n k : Nat) : Value := .slice (some ⟨b, o + 64 * k, none⟩) (min 64 (n - 64 * k)) (min 64 (n - 64 * k))

set_option maxHeartbeats 2000000 in
set_option maxRecDepth 8000 in
theorem chunk2_in (fr l b1 b2 b o n c : Nat) (A : Option Addr) (hA : 0 < n → A = some ⟨b, o, none⟩) (J : Nat → World → Prop) (R Rx : World → Prop) (hfr : 2 ≤ fr) (hnc : n ≤ c) (hn : n ≤ 1000000)
    (hbox : ∀ k W, J k W → R W → W.cell? ⟨b1, 0, none⟩ = some (.slice A n c) ∧ W.cell? ⟨b2, 0, none⟩ = some (.int .i64 64))
    (hdrew : ∀ k W d, J k W → R W → J k (W.drewN d) ∧ R (W.drewN d))
    (hY : ∀ k W, 64 * k < n → J k W → R W → YieldAt Fence.wide (fr - 1) Tryz.prog l #[chunkw b o n k] W fun e W' => (e = .returned (.bool true) ∧ J (k + 1) W' ∧ R W') ∨ (e = .returned (.bool false) ∧ Rx W'))
    (W : World) (h0 : J 0 W) (hR : R W) :
    CallsIn Fence.wide fr Tryz.prog 130 (#[.func (.yield l) #[] #[]] ++ #[.pointer (some ⟨b1, 0, none⟩), .pointer (some ⟨b2, 0, none⟩)]) W
      fun e W' => (∃ v, e = .returned v) ∧ ((J ((n + 63) / 64) W' ∧ R W') ∨ Rx W') := by
  refine callsIn_of_wp Tryz.func130 rfl trivial ?_ rfl
  simp only [Tryz.ntmps130, List.size_toArray, List.length_cons, List.length_nil, Nat.reduceAdd, Nat.reduceSub, Array.replicate_succ, Array.replicate_zero, List.push_toArray, List.append_toArray, List.nil_append, List.cons_append]
  gi_wp2
  gi_loopw [4] (fun ir wr => ∃ k : Nat, k ≤ (n + 63) / 64 ∧ ir = .int .i64 ((64 * k : Nat) : Int) ∧ J k wr ∧ R wr) (fun ir _ => (n + 63) / 64 - (intOf ir).toNat / 64)
  case atStart => exact ⟨0, Nat.zero_le _, rfl, h0, hR⟩
  case round =>
    obtain ⟨k, hk, rfl, hJ, hR⟩ := hrel
    obtain ⟨c1, c2⟩ := hbox k wr hJ hR
    obtain ⟨i, hi⟩ : ∃ i, i = 64 * k := ⟨_, rfl⟩
    rw [← hi]
    by_cases hlt : i < n
    · obtain rfl := hA (by omega)
      obtain ⟨m, hm⟩ : ∃ m, m = min 64 (n - i) := ⟨_, rfl⟩
      have hm1 : 1 ≤ m := by omega
      have hm2 : i + m ≤ n := by omega
      have hmi : min (64 : Int) ((n : Int) - (i : Int)) = (m : Int) := by omega
      have hmj : (if (n : Int) - (i : Int) < 64 then (n : Int) - (i : Int) else 64) = (m : Int) := by split <;> omega
      have hmn : min (64 : Int) (((n - i : Nat) : Int)) = (m : Int) := by omega
      have HD := Lib.hid (fun d => hdrew k wr d hJ hR)
      have HY := Lib.hid hY
      have HBX := Lib.hid hbox
      have hin : (i : Int) < (n : Int) := by omega
      have hi6 : i ≤ 1000000 := by omega
      have HK := Lib.hid hk
      have HI := Lib.hid hi
      have HM := Lib.hid hm
      clear hbox hdrew hY hJ hR hk hi hm
      gi_wp2
      gi_quiet (fail)
      have hmk : (if ((n - i : Nat) : Int) < 64 then ((n - i : Nat) : Int) else 64) = (m : Int) := by split <;> omega
      try rw [hmk]
      clear hmk hmi hmj hmn
      obtain ⟨hJd, hRd⟩ := HD.out nq
      obtain ⟨fn, tmps, assign, body, hy, hRo⟩ := HY.out k _ (by have := HI.out; omega) hJd hRd
      have ec : chunkw b o n k = .slice (some ⟨b, o + i, none⟩) m m := by unfold chunkw; rw [← HI.out, ← HM.out]
      rw [ec] at hy
      have c1' : (wr.drewN nq).cell? ⟨b1, 0, none⟩ = some (.slice (some ⟨b, o, none⟩) n c) := c1
      have hs1 : ((i : Int) + (m : Int)).toNat - i = m := by omega
      gi_wp2
      refine ⟨fun _ => by omega, hRo.mono ?_⟩
      rintro e W3 (⟨rfl, hJ3, hR3⟩ | ⟨rfl, hx⟩)
      · obtain ⟨_, c2'⟩ := HBX.out (k + 1) W3 hJ3 hR3
        have HI2 : Hid (i + 64 = 64 * (k + 1)) := Lib.hid (by have := HI.out; omega)
        gi_wp2
        go_roundw
        case rel => exact ⟨k + 1, by have := HI.out; omega, by rw [← HI2.out]; rfl, hJ3, hR3⟩
        case measure => simp [intOf]; have := HI.out; omega
      · gi_wp2
        refine bodyPost_ret (results_none rfl _ _ _) rfl ?_
        exact ⟨⟨_, rfl⟩, .inr hx⟩
    · have hkn : k = (n + 63) / 64 := by omega
      have hin : decide ((i : Int) < (n : Int)) = false := by simp; omega
      have HKN := Lib.hid hkn
      clear hbox hdrew hY hk hkn hi
      gi_wp2
      go_end0
      rw [← HKN.out]
      exact ⟨⟨_, rfl⟩, .inl ⟨hJ, hR⟩⟩

end Go.Proofs.YtpalmobmabkadaaGreatDoor

namespace Go.Proofs.YtpalmobmabkadaaGreatDoor
set_option maxRecDepth 20000
open Go.RowKit
attribute [local go_sem] Oper.semAt_some

theorem power_ok (g : Nat) (w : World) (c4 : w.cell? ⟨g, 4, none⟩ = some (.bool false)) : Calls Tryz.prog 95 #[.pointer (some ⟨g, 0, none⟩)] w fun e w' => e = .returned (.int .i64 0) ∧ w = w' := power_at g false w c4
theorem results_cell1 {fn : Func} {p : Tmp} {tp : TypeId} (h : fn.results = #[.cell p tp]) (tmps : Array Value) {P : Program} {w : World} {a : Addr} {u : Value} (hp : tmps.getD p undef = .pointer (some a)) (h1 : (loadVar tp a).run P w = .ok u w) : (results fn tmps).run P w = .ok u w := by
  have hp' : tmps[p]?.getD undef = .pointer (some a) := by simpa using hp
  simp [results, h, hp', asAddr, h1]
theorem load_errno {w : World} {b : Nat} {E : Int} (h : w.cell? ⟨b, 0, none⟩ = some (.int .i64 E)) : (loadVar 29 ⟨b, 0, none⟩).run Tryz.prog w = .ok (.int .i64 E) w := by
  go_simp
theorem Rd.stay {w w' : World} {B sz n c : Nat} {A : Option Addr} {xs : List Value} (h : Rd w B sz A n c xs) (k : ∀ b o, A = some ⟨b, o, none⟩ → w'.heap[b]? = w.heap[b]?) : Rd w' B sz A n c xs := by
  obtain ⟨h1, h2, h3, h4⟩ := h
  refine ⟨h1, h2, h3, fun hn => ?_⟩
  obtain ⟨b, o, hA, hb, hc⟩ := h4 hn
  exact ⟨b, o, hA, hb, fun j u hu => (World.cell?_of_block (a := ⟨b, o + j, none⟩) (k b o hA)).trans (hc j u hu)⟩
theorem Rd.stayn {w w' : World} {B sz n c : Nat} {A : Option Addr} {xs : List Value} (h : Rd w B sz A n c xs) (k : 0 < n → ∀ b o, A = some ⟨b, o, none⟩ → b < B → w'.heap[b]? = w.heap[b]?) : Rd w' B sz A n c xs := by
  obtain ⟨h1, h2, h3, h4⟩ := h
  refine ⟨h1, h2, h3, fun hn => ?_⟩
  obtain ⟨b, o, hA, hb, hc⟩ := h4 hn
  exact ⟨b, o, hA, hb, fun j u hu => (World.cell?_of_block (a := ⟨b, o + j, none⟩) (k hn b o hA hb)).trans (hc j u hu)⟩
theorem write_nil (x : Int) (A : Option Addr) (n c : Nat) (w : World) : Calls Tryz.prog 92 #[.pointer none, .int .i64 x, .slice A n c] w fun e w' => e = .returned (.int .i64 1) ∧ Below w.heap.size w w' := by
  go_enter Tryz.func92, Tryz.ntmps92
  go_wp2_with (first
    | (go_at_call 95; refine (power_nil _).mono ?_; rintro e w1 ⟨rfl, rfl⟩)
    | fail)
  obtain ⟨W, hW, hz, hr0, hr1, hr2, hb⟩ := boxes3 w #[.pointer none] #[.int .i64 x] #[.int .i64 1] 32 3 29
  rw [← hW]
  exact bodyPost_ret (results_cell1 rfl _ rfl (load_errno (cell_of_row _ _ 0 _ _ _ hr2))) rfl ⟨rfl, hb⟩
theorem write_down (g : Nat) (x : Int) (A : Option Addr) (n c : Nat) (w : World) (c4 : w.cell? ⟨g, 4, none⟩ = some (.bool true)) : Calls Tryz.prog 92 #[.pointer (some ⟨g, 0, none⟩), .int .i64 x, .slice A n c] w fun e w' => e = .returned (.int .i64 50) ∧ Below w.heap.size w w' := by
  have hgl := block_lt_of_cell c4
  have hp : ∀ (W : World), W.cell? ⟨g, 4, none⟩ = some (.bool true) → Calls Tryz.prog 95 #[.pointer (some ⟨g, 0, none⟩)] W fun e w' => e = .returned (.int .i64 50) ∧ W = w' := fun W c => power_at g true W c
  obtain ⟨W0, hW0, hz0, s0, s1, s2, hb0⟩ := boxes3 w #[.pointer (some ⟨g, 0, none⟩)] #[.int .i64 x] #[.int .i64 0] 32 3 29
  have d4 := (hb0.cell (p := ⟨g, 4, none⟩) hgl).trans c4
  rw [hW0] at d4
  have HD4 := Lib.hid d4
  have HPP := Lib.hid hp
  clear d4 hp hW0 hz0 s0 s1 s2 hb0
  go_enter Tryz.func92, Tryz.ntmps92
  go_wp2_with (first
    | (go_at_call 95; refine (HPP.out _ HD4.out).mono ?_; rintro e w1 ⟨rfl, rfl⟩)
    | fail)
  obtain ⟨W, hW, hz, hr0, hr1, hr2, hb⟩ := boxes3 w #[.pointer (some ⟨g, 0, none⟩)] #[.int .i64 x] #[.int .i64 50] 32 3 29
  rw [← hW]
  exact bodyPost_ret (results_cell1 rfl _ rfl (load_errno (cell_of_row _ _ 0 _ _ _ hr2))) rfl ⟨rfl, hb⟩
theorem chunk_any2 (A : Option Addr) (n c : Nat) (w : World) :
    Calls Tryz.prog 107 #[.slice A n c, .int .i64 64] w fun e w' => e = .returned (.func (.func 130) #[] #[.pointer (some ⟨w.heap.size, 0, none⟩), .pointer (some ⟨w.heap.size + 1, 0, none⟩)]) ∧
      w'.heap[w.heap.size]? = some (.cells #[.slice A n c] 86 (0, 0)) ∧ w'.heap[w.heap.size + 1]? = some (.cells #[.int .i64 64] 3 (0, 0)) ∧ w'.heap.size = w.heap.size + 2 ∧ Below w.heap.size w w' := by
  go_enter Tryz.func107, Tryz.ntmps107
  go_wp2
  obtain ⟨W0, hW0, hz0, hr0, hr1, hb0⟩ := boxes2 w #[.slice A n c] #[.int .i64 64] 86 3
  rw [← hW0]
  go_ret
  exact ⟨rfl, hr0, hr1, hz0, hb0⟩

/-- A sector of a text. -/
def sct (l : List UInt8) (i : Nat) : List UInt8 := (l.drop (64 * i)).take 64
def Dv.write (d : Dv) (x : Int) (l : List UInt8) : Nat → Dv × Int
  | 0 => (d, 0)
  | k + 1 => if (d.write x l k).2 ≠ 0 then d.write x l k else (((d.write x l k).1.chg (x + k, pad (sct l k))).step, pw ((d.write x l k).1.chg (x + k, pad (sct l k))).step.down)

theorem Dv.write_pw (d : Dv) (x : Int) (l : List UInt8) (j : Nat) : (d.write x l j).2 = 0 ∨ (d.write x l j).2 = 50 := by
  induction j with
  | zero => exact .inl rfl
  | succ j ih =>
    rw [Dv.write]
    split
    · exact ih
    · unfold pw; simp only; split
      · exact .inr rfl
      · exact .inl rfl
theorem Dv.write_stays (d : Dv) (x : Int) (l : List UInt8) (j k : Nat) (h : j ≤ k) (he : (d.write x l j).2 ≠ 0) : d.write x l k = d.write x l j := by
  induction k with
  | zero => obtain rfl : j = 0 := by omega
            rfl
  | succ k ih =>
    rcases Nat.lt_or_ge j (k + 1) with h1 | h1
    · have := ih (by omega)
      rw [Dv.write, if_pos (by rw [this]; exact he), this]
    · obtain rfl : j = k + 1 := by omega
      rfl
theorem Dv.write_good (d : Dv) (x : Int) (l : List UInt8) (j : Nat) (he : (d.write x l j).2 = 0) : (d.write x l j).1.done = d.done + j ∧ (d.write x l j).1.ws.length = d.ws.length + j ∧ (d.write x l j).1.n = d.n ∧ (d.down = false → (d.write x l j).1.down = false) := by
  induction j with
  | zero => exact ⟨rfl, rfl, rfl, fun h => h⟩
  | succ j ih =>
    rw [Dv.write] at he ⊢
    by_cases h0 : (d.write x l j).2 ≠ 0
    · rw [if_pos h0] at he
      exact absurd he h0
    · rw [if_neg h0] at he ⊢
      obtain ⟨h1, h2, h3, _⟩ := ih (Decidable.not_not.1 h0)
      refine ⟨?_, ?_, h3, fun _ => ?_⟩
      · show (d.write x l j).1.done + 1 = _; omega
      · show ((d.write x l j).1.ws ++ [_]).length = _
        rw [List.length_append, h2]; simp; omega
      · simp only at he ⊢
        unfold pw at he
        split at he
        · cases he
        · rename_i hh; simpa using hh

/-- Between two rounds. -/
structure WJ (w : World) (B g bs bl k : Nat) (v : Value) (d : Dv) (x : Int) (A : Option Addr) (n c : Nat) (l : List UInt8) (j : Nat) (W : World) : Prop where
  e : (d.write x l j).2 = 0
  p : W.heap[w.heap.size]? = some (.cells #[.pointer (some ⟨g, 0, none⟩)] 32 (0, 0))
  a : W.heap[w.heap.size + 1]? = some (.cells #[.int .i64 (x + j)] 3 (0, 0))
  r : W.heap[w.heap.size + 2]? = some (.cells #[.int .i64 0] 29 (0, 0))
  b1 : W.heap[w.heap.size + 3]? = some (.cells #[.slice A n c] 86 (0, 0))
  b2 : W.heap[w.heap.size + 4]? = some (.cells #[.int .i64 64] 3 (0, 0))
  dev : ∃ v', Dev W B g bs bl v' k (d.write x l j).1 ∧ ∀ q, v'.ownBlock = some q → v.ownBlock = some q ∨ w.heap.size + 7 ≤ q
  kp : Keeps (Foot g bs bl v) w W
section
variable {w W W' : World} {B g bs bl k : Nat} {v : Value} {d : Dv} {x : Int} {A : Option Addr} {n c : Nat} {l : List UInt8} {j : Nat}
theorem WJ.step (h : WJ w B g bs bl k v d x A n c l j W) (hf : ∀ i, Foot g bs bl v i → i < w.heap.size) {row : Option Nat} (hg : W.grownBy W' row) (hr : ∀ r, row = some r → w.heap.size + 5 ≤ r ∧ (r < w.heap.size + 7 ∨ W.heap.size ≤ r)) : WJ w B g bs bl k v d x A n c l j W' := by
  have far : ∀ b, b < w.heap.size + 5 → some b ≠ row := fun b hb e => by have := hr b e.symm; omega
  obtain ⟨v', h1, h2⟩ := h.dev
  refine ⟨h.e, row_far h.p hg (far _ (by omega)), row_far h.a hg (far _ (by omega)), row_far h.r hg (far _ (by omega)), row_far h.b1 hg (far _ (by omega)), row_far h.b2 hg (far _ (by omega)), ⟨v', ?_, h2⟩, h.kp.grown hg (fun r e => .inr (by have := hr r e; omega))⟩
  refine h1.keeps (F := fun i => some i = row) ((Keeps.refl _ _).grown hg (fun r e => .inl e.symm)) (fun i hi hfi => ?_)
  have h3 := hr i hi.symm
  have h4 := (h1.foot_lt hfi).2
  rcases hfi with e | e | e | e
  · have := hf i (.inl e); omega
  · have := hf i (.inr (.inl e)); omega
  · have := hf i (.inr (.inr (.inl e))); omega
  · rcases h2 i e with h5 | h5
    · have := hf i (.inr (.inr (.inr h5))); omega
    · omega
theorem WJ.below (h : WJ w B g bs bl k v d x A n c l j W) (hf : ∀ i, Foot g bs bl v i → i < w.heap.size) (hb : Below W.heap.size W W') : WJ w B g bs bl k v d x A n c l j W' :=
  h.step hf (below_grown hb none) (fun r e => by cases e)
theorem WJ.drewN (h : WJ w B g bs bl k v d x A n c l j W) (hf : ∀ i, Foot g bs bl v i → i < w.heap.size) (m : Nat) : WJ w B g bs bl k v d x A n c l j (W.drewN m) :=
  h.below hf ⟨rfl, rfl, rfl, Nat.le_refl _, fun _ _ => rfl⟩
theorem WJ.robust (hf : ∀ i, Foot g bs bl v i → i < w.heap.size) : Robust (w.heap.size + 5) (WJ w B g bs bl k v d x A n c l j) := fun W r o h hr hlt =>
  h.step hf (grownBy_putObj' W r o) (fun q e => by have := Option.some.inj e; omega)
end
end Go.Proofs.YtpalmobmabkadaaGreatDoor

namespace Go.Proofs.YtpalmobmabkadaaGreatDoor
set_option maxRecDepth 20000
open Go.RowKit
attribute [local go_sem] Oper.semAt_some

/-- What a write leaves. -/
def Wrote (w : World) (B g bs bl k : Nat) (v : Value) (d' : Dv) (w' : World) : Prop := ∃ v', Dev w' B g bs bl v' k d' ∧ Keeps (Foot g bs bl v) w w' ∧ ∀ q, v'.ownBlock = some q → v.ownBlock = some q ∨ w.heap.size ≤ q

set_option maxHeartbeats 4000000 in
set_option maxRecDepth 8000 in
theorem write_good {w : World} {B g bs bl k : Nat} {v : Value} {d : Dv} (h : Dev w B g bs bl v k d) (hd : d.down = false) (x : Int) (A : Option Addr) (n c : Nat) (l : List UInt8) (hl : Rd w w.heap.size 1 A n c (u8s l)) (hsep : 0 < n → ∀ b o, A = some ⟨b, o, none⟩ → ¬ Foot g bs bl v b) (hdone : d.done ≤ 800000000) (hws : d.ws.length ≤ 900000) (hx : 0 ≤ x) (hm : x + (n + 63) / 64 ≤ d.n) (hn6 : n ≤ 1000000) :
    Calls Tryz.prog 92 #[.pointer (some ⟨g, 0, none⟩), .int .i64 x, .slice A n c] w fun e w' => e = .returned (.int .i64 (d.write x l ((n + 63) / 64)).2) ∧ Wrote w B g bs bl k v (d.write x l ((n + 63) / 64)).1 w' := by
  have c4 := h.c4
  rw [hd] at c4
  have hn := h.ok.n
  have c0 := h.c0
  have HD := Lib.hid hd
  have hnn : n ≤ 4194304 := by omega
  have hW := fun (W : World) (c0 : W.cell? ⟨g, 0, none⟩ = some (.int .i64 (d.n : Int))) => within_at g d.n x (((n : Int) + 63) / 64) W c0 hn (by omega)
  rw [show withinB d.n x (((n : Int) + 63) / 64) = true from by unfold withinB; simp; omega] at hW
  have HW := Lib.hid hW
  have hNd := fun W => need_any (n : Int) W (by omega) (by omega)
  have HN := Lib.hid hNd
  have HH := Lib.hid h
  have hgl := h.lt
  have hni : (n : Int) ≤ 4194304 := by omega
  have hf : ∀ i, Foot g bs bl v i → i < w.heap.size := fun i hi => (h.foot_lt hi).2
  have hnc := hl.1
  have hln : l.length = n := by have := hl.len; rwa [u8s_len] at this
  obtain ⟨b, o, hA, hcell⟩ : ∃ b o, (0 < n → A = some ⟨b, o, none⟩) ∧ ∀ W, Keeps (Foot g bs bl v) w W → ∀ i, 64 * i < n → Rd W W.heap.size 1 (some ⟨b, o + 64 * i, none⟩) (min 64 (n - 64 * i)) (min 64 (n - 64 * i)) (u8s (sct l i)) := by
    by_cases h0 : 0 < n
    · obtain ⟨b, o, rfl, hb, _⟩ := hl.2.2.2 h0
      refine ⟨b, o, fun _ => rfl, fun W hW i hi => ?_⟩
      have h1 := ((hl.stayn (w' := W) (fun h0 b' o' e _ => by cases e; exact hW.block b hb (hsep h0 b o rfl))).more hW.size).cut (k := 64 * i) (m := min 64 (n - 64 * i)) (by omega)
      have e : ((u8s l).drop (64 * i)).take (min 64 (n - 64 * i)) = u8s (sct l i) := by
        unfold sct
        rw [u8s_take, u8s_drop]
        rcases Nat.le_total 64 (n - 64 * i) with h2 | h2
        · rw [Nat.min_eq_left h2]
        · rw [Nat.min_eq_right h2, List.take_of_length_le (by rw [List.length_drop, u8s_len, hln]; exact Nat.le_refl _), List.take_of_length_le (by rw [List.length_drop, u8s_len, hln]; exact h2)]
      rw [e, Option.map_some, addOff] at h1
      exact ⟨Nat.le_refl _, by unfold maxLen; omega, h1.2.2.1, h1.2.2.2⟩
    · exact ⟨0, 0, fun h => absurd h h0, fun W _ i hi => by omega⟩
  have HA := Lib.hid hA
  have HC := Lib.hid hcell
  have HDN := Lib.hid hdone
  have HWS := Lib.hid hws
  have HM := Lib.hid hm
  have HN65 := Lib.hid hn
  obtain ⟨PP, hPP⟩ : ∃ PP : Ending → World → Prop, PP = fun e w' => e = .returned (.int .i64 (d.write x l ((n + 63) / 64)).2) ∧ Wrote w B g bs bl k v (d.write x l ((n + 63) / 64)).1 w' := ⟨_, rfl⟩
  rw [← hPP]
  have HPP := Lib.hid hPP
  clear hPP hA hcell hln hdone hws hsep hl
  clear hW h hd hm hn hNd
  obtain ⟨W0, hW0, hz0, hr0, hr1, hr2, hb0⟩ := boxes3 w #[.pointer (some ⟨g, 0, none⟩)] #[.int .i64 x] #[.int .i64 0] 32 3 29
  have hD0 : Dev W0 B g bs bl v k d := HH.out.below hb0
  have d4 : W0.cell? ⟨g, 4, none⟩ = some (.bool false) := by have := hD0.c4; rwa [HD.out] at this
  have d0 := hD0.c0
  have e0 : W0.cell? ⟨w.heap.size, 0, none⟩ = some (.pointer (some ⟨g, 0, none⟩)) := cell_of_row W0 _ 0 _ _ _ hr0
  have e1 : W0.cell? ⟨w.heap.size + 1, 0, none⟩ = some (.int .i64 x) := cell_of_row W0 _ 0 _ _ _ hr1
  have HW0 := Lib.hid hW0
  have HZ0 := Lib.hid hz0
  clear hW0 hz0 c4 c0
  refine (callsIn_wide (n := 9)).1 ?_
  refine callsIn_of_wp_marks Tryz.func92 rfl trivial ?_ rfl
  simp only [Tryz.ntmps92, List.size_toArray, List.length_nil, List.length_cons, Nat.reduceAdd, Nat.reduceSub, Array.replicate_succ, Array.replicate_zero, List.push_toArray, List.append_toArray, List.nil_append, List.cons_append]
  gi_wp2_with (first
    | (refine ⟨trivial, ?_⟩; rw [← HW0.out]; gi_at_call 95; refine (callsIn_wide.2 (power_ok g _ d4)).mono ?_; rintro e w5 ⟨rfl, rfl⟩)
    | fail)
  refine wpIn_wide.2 ?_
  go_quiet ((first
    | (go_at_call 122; refine (HN.out _).mono ?_; rintro e w1 ⟨rfl, rfl⟩; exact ⟨rfl, _, rfl⟩)
    | (go_at_call 104; refine (HW.out (World.drewN W0 _) (by exact d0)).mono ?_; rintro e w1 ⟨rfl, rfl⟩; exact ⟨rfl, _, rfl⟩)))
  have hbq : Below w.heap.size w (W0.drewN nq) := ⟨hb0.os, hb0.tape, hb0.output, hb0.size, hb0.block⟩
  have hDq : Dev (W0.drewN nq) B g bs bl v k d := hD0.below ⟨rfl, rfl, rfl, Nat.le_refl _, fun _ _ => rfl⟩
  have hq0 : (W0.drewN nq).heap[w.heap.size]? = some (.cells #[.pointer (some ⟨g, 0, none⟩)] 32 (0, 0)) := hr0
  have hq1 : (W0.drewN nq).heap[w.heap.size + 1]? = some (.cells #[.int .i64 x] 3 (0, 0)) := hr1
  have hq2 : (W0.drewN nq).heap[w.heap.size + 2]? = some (.cells #[.int .i64 0] 29 (0, 0)) := hr2
  have HZq : Hid ((W0.drewN nq).heap.size = w.heap.size + 3) := HZ0
  clear hD0 d4 d0 e0 e1 hr0 hr1 hr2 hb0 HW0 HZ0
  generalize W0.drewN nq = W1 at *
  gi_wp2_with (first
    | (refine ⟨trivial, ?_⟩; gi_at_call 107; refine (callsIn_wide.2 (chunk_any2 _ _ _ _)).mono ?_; rintro e w5 ⟨rfl, hr5, hr6, hz5, hb5⟩)
    | fail)
  have hbw5 : Below w.heap.size w w5 := hbq.trans (hb5.mono (by have := HZq.out; omega))
  have p5 := row_below hq0 hb5
  have a5 := row_below hq1 hb5
  have r5 := row_below hq2 hb5
  have hD5 := hDq.below hb5
  rw [HZq.out] at hr5 hr6 hz5 ⊢
  have hJ0 : WJ w B g bs bl k v d x A n c l 0 w5 := ⟨rfl, p5, by rw [a5]; simp, r5, hr5, hr6, ⟨v, hD5, fun q hq => .inl hq⟩, Keeps.of_below hbw5⟩
  have hz0 : w5.heap.size = w.heap.size + 5 := by omega
  clear hr5 hr6 hz5 hb5 hbw5 p5 a5 r5 hD5 hq0 hq1 hq2 hbq hDq
  refine wpIn_rangeJ rfl (by omega) (gf := 130) (lb := #[.pointer (some ⟨w.heap.size + 3, 0, none⟩), .pointer (some ⟨w.heap.size + 3 + 1, 0, none⟩)]) rfl trivial (enters_of Tryz.func130 (by kernel_rfl) rfl)
    (encs := fun i : Nat => #[chunkw b o n i]) (fun _ => rfl)
    (fun j => WJ w B g bs bl k v d x A n c l j) (fun j i W => i = j ∧ WJ w B g bs bl k v d x A n c l j W)
    (fun cd W => cd = .ret ∧ (d.write x l ((n + 63) / 64)).2 = 50 ∧ W.heap[w.heap.size + 2]? = some (.cells #[.int .i64 50] 29 (0, 0)) ∧ ∃ v', Dev W B g bs bl v' k (d.write x l ((n + 63) / 64)).1 ∧ Keeps (Foot g bs bl v) w W ∧ ∀ q, v'.ownBlock = some q → v.ownBlock = some q ∨ w.heap.size + 7 ≤ q) ((n + 63) / 64) ?hJ ?hJ' ?hJx ?h0 ?hiter
    (fun i => { tmps := #[.pointer (some ⟨g, 0, none⟩), .int .i64 x, .slice A n c, .pointer (some ⟨w.heap.size, 0, none⟩), .pointer (some ⟨w.heap.size + 1, 0, none⟩), undef, .pointer (some ⟨w.heap.size + 1 + 1, 0, none⟩), .int .i64 0, chunkw b o n i, undef, .pointer (some ⟨g, 0, none⟩), .int .i64 0, .int .i64 0, .bool false, undef, .pointer (some ⟨g, 0, none⟩), .int .i64 x, .slice A n c, .int .i64 (n : Int), .int .i64 (((n : Int) + 63) / 64), .bool true, .bool false, .slice A n c, .func (.func 130) #[] #[.pointer (some ⟨w.heap.size + 3, 0, none⟩), .pointer (some ⟨w.heap.size + 3 + 1, 0, none⟩)], chunkw b o n i, undef, undef, undef, undef, undef, undef, undef, undef, undef], defers := [] })
    ?assign ?body ?done ?stop
  case hJ =>
    rw [hz0]
    exact fun j => WJ.robust hf
  case hJ' =>
    rw [hz0]
    exact fun j i W r o' hh hr hl => ⟨hh.1, WJ.robust hf W r o' hh.2 hr hl⟩
  case hJx =>
    rw [hz0]
    rintro cd W r o' ⟨h1, h2, h3, v', h4, h5, h6⟩ hr hl
    have hg := grownBy_putObj' W r o'
    refine ⟨h1, h2, row_far h3 hg (fun e => by have := Option.some.inj e; omega), v', ?_, h5.grown hg (fun q e => .inr (by have := Option.some.inj e; omega)), h6⟩
    refine h4.keeps (F := fun i => i = r) (Keeps.one hg) (fun i hi hfi => ?_)
    subst hi
    rcases hfi with e | e | e | e
    · have := hf i (.inl e); omega
    · have := hf i (.inr (.inl e)); omega
    · have := hf i (.inr (.inr (.inl e))); omega
    · rcases h6 i e with h7 | h7
      · have := hf i (.inr (.inr (.inr h7))); omega
      · omega
  case h0 =>
    intro o1 o2
    exact (hJ0.below hf ((Below.refl _ _).alloc (Nat.le_refl _) _)).below hf ((Below.refl _ _).alloc (Nat.le_refl _) _)
  case hiter =>
    intro l0 R Rx hR hY hRs hRx W hJW hRW
    refine (chunk2_in 8 l0 (w.heap.size + 3) (w.heap.size + 3 + 1) b o n c A HA.out (fun j => WJ w B g bs bl k v d x A n c l j) R Rx (by omega) hnc hn6 ?_ ?_ ?_ W hJW hRW)
    · exact fun j W hJ _ => ⟨cell_of_row W _ 0 _ _ _ hJ.b1, cell_of_row W _ 0 _ _ _ hJ.b2⟩
    · exact fun j W d' hJ hRj => ⟨hJ.drewN hf d', hR _ _ hRj ⟨Nat.le_refl _, rfl, rfl⟩⟩
    · exact fun j W hj hJ hRj => hY j j W (by omega) ⟨rfl, hJ⟩ hRj
  case assign =>
    intro l0 i W K hK
    gi_wp2
    exact hK
  case body =>
    rintro l0 j i W hj ⟨rfl, hJ⟩ hlt2
    rw [hz0] at hlt2
    obtain ⟨v', hD', hv'⟩ := hJ.dev
    obtain ⟨g1, g2, g3, g4⟩ := Dv.write_good d x l i hJ.e
    have hw1 : d.write x l (i + 1) = (((d.write x l i).1.chg (x + i, pad (sct l i))).step, pw ((d.write x l i).1.chg (x + i, pad (sct l i))).step.down) := by rw [Dv.write, if_neg (by rw [hJ.e]; simp)]
    have hsl := HC.out W hJ.kp i (by omega)
    have hnf : ∀ q, w.heap.size ≤ q → q < w.heap.size + 7 → ¬ Foot g bs bl v' q := by
      intro q h1 h2 hfq
      rcases hfq with e | e | e | e
      · have := hf q (.inl e); omega
      · have := hf q (.inr (.inl e)); omega
      · have := hf q (.inr (.inr (.inl e))); omega
      · rcases hv' q e with h5 | h5
        · have := hf q (.inr (.inr (.inr h5))); omega
        · omega
    have hnv : ∀ q, Foot g bs bl v' q → Foot g bs bl v q ∨ w.heap.size ≤ q := by
      intro q hfq
      rcases hfq with e | e | e | e
      · exact .inl (.inl e)
      · exact .inl (.inr (.inl e))
      · exact .inl (.inr (.inr (.inl e)))
      · rcases hv' q e with h5 | h5
        · exact .inl (.inr (.inr (.inr h5)))
        · exact .inr (by omega)
    have hC := change_any hD' (by rw [g1]; have := HDN.out; omega) (by rw [g2]; have := HWS.out; omega) (x + i) (by omega) (by rw [g3]; have := HM.out; omega) _ _ _ (sct l i) hsl (Nat.min_le_left _ _)
    unfold chunkw
    obtain ⟨m, hm'⟩ : ∃ m, m = min 64 (n - 64 * i) := ⟨_, rfl⟩
    rw [← hm'] at hC ⊢
    obtain ⟨d2, hd2⟩ : ∃ d2, d2 = ((d.write x l i).1.chg (x + i, pad (sct l i))).step := ⟨_, rfl⟩
    rw [← hd2] at hC hw1
    have e0 : W.cell? ⟨w.heap.size, 0, none⟩ = some (.pointer (some ⟨g, 0, none⟩)) := cell_of_row W _ 0 _ _ _ hJ.p
    have e1 : W.cell? ⟨w.heap.size + 1, 0, none⟩ = some (.int .i64 (x + i)) := cell_of_row W _ 0 _ _ _ hJ.a
    have HJ := Lib.hid hJ
    have HW1 := Lib.hid hw1
    have hik : (i : Int) ≤ 4194304 := by omega
    have hxk : x ≤ 65536 := by have := HM.out; have := HN65.out; omega
    have hkr : ∀ W2, Keeps (Foot g bs bl v') W W2 → KeepsRec (w.heap.size + 5) W W2 := fun W2 hK => ⟨hK.size, hK.block _ (by omega) (hnf _ (by omega) (by omega)), hK.block _ (by omega) (hnf _ (by omega) (by omega))⟩
    have HKR := Lib.hid hkr
    clear hm' hd2 hsl hkr hJ hw1 g1 g2 g3 g4 hD'
    cases hdn : d2.down with
    | false =>
      have hC0 : Calls Tryz.prog 123 #[.pointer (some ⟨g, 0, none⟩), .int .i64 (x + i), .slice (some ⟨b, o + 64 * i, none⟩) m m] W fun e w' => e = .returned (.int .i64 0) ∧ ∃ v'', Dev w' B g bs bl v'' k d2 ∧ Keeps (Foot g bs bl v') W w' ∧ (v''.ownBlock = v'.ownBlock ∨ ∀ q, v''.ownBlock = some q → W.heap.size ≤ q) := by
        rw [hdn] at hC
        exact hC
      have HC0 := Lib.hid hC0
      have HDN2 := Lib.hid hdn
      clear hC hC0 hdn
      gi_wp2_with (first
        | (refine ⟨trivial, ?_⟩; gi_at_call 123; refine (CallsIn.inRound l0 (callsIn_wide.2 HC0.out)).mono ?_; rintro e W2 ⟨rfl, v2, hD2, hK2, hv2⟩
           have d1 : W2.cell? ⟨w.heap.size + 1, 0, none⟩ = some (.int .i64 (x + i)) := hK2.cell e1 (hnf _ (by omega) (by omega))
           have f1 : W2.frozen? ⟨w.heap.size + 1, 0, none⟩ = false := frozen_of_row W2 _ 0 _ _ (hK2.row HJ.out.a (hnf _ (by omega) (by omega)))))
      have gs := setCell_grows W2 (w.heap.size + 1) 0 (.int .i64 (x + i + 1))
      have hn2 : ∀ q, w.heap.size ≤ q → q < w.heap.size + 7 → ¬ Foot g bs bl v2 q := by
        intro q h1 h2 hfq
        rcases hfq with e | e | e | e
        · exact hnf q h1 h2 (.inl e)
        · exact hnf q h1 h2 (.inr (.inl e))
        · exact hnf q h1 h2 (.inr (.inr (.inl e)))
        · rcases hv2 with h5 | h5
          · exact hnf q h1 h2 (.inr (.inr (.inr (h5 ▸ e))))
          · have := h5 q e; omega
      have hz2 := hK2.size
      have hJ := HJ.out
      refine ⟨by rw [hz0]; exact (HKR.out W2 hK2).trans (KeepsRec.grown gs (by omega) (fun r hr => by have := Option.some.inj hr; omega)), ⟨by rw [HW1.out]; show pw d2.down = 0; rw [HDN2.out]; rfl, ?_, ?_, ?_, ?_, ?_, ⟨v2, ?_, ?_⟩, ?_⟩⟩
      · exact row_far (hK2.row hJ.p (hnf _ (by omega) (by omega))) gs (fun e => by have := Option.some.inj e; omega)
      · have h1 := set_row (hK2.row hJ.a (hnf _ (by omega) (by omega))) 0 (.int .i64 (x + i + 1))
        rw [h1]
        have e : (x + ((i + 1 : Nat) : Int)) = x + i + 1 := by omega
        rw [e]
        rfl
      · exact row_far (hK2.row hJ.r (hnf _ (by omega) (by omega))) gs (fun e => by have := Option.some.inj e; omega)
      · exact row_far (hK2.row hJ.b1 (hnf _ (by omega) (by omega))) gs (fun e => by have := Option.some.inj e; omega)
      · exact row_far (hK2.row hJ.b2 (hnf _ (by omega) (by omega))) gs (fun e => by have := Option.some.inj e; omega)
      · rw [HW1.out]
        exact hD2.keeps (Keeps.one gs) (fun q hq hfq => by subst hq; exact hn2 _ (by omega) (by omega) hfq)
      · intro q hq
        rcases hv2 with h5 | h5
        · exact hv' q (h5 ▸ hq)
        · have := h5 q hq; exact .inr (by omega)
      · exact (hJ.kp.trans hK2 hnv).grown gs (fun r hr => .inr (by have := Option.some.inj hr; omega))
    | true =>
      have hC0 : Calls Tryz.prog 123 #[.pointer (some ⟨g, 0, none⟩), .int .i64 (x + i), .slice (some ⟨b, o + 64 * i, none⟩) m m] W fun e w' => e = .returned (.int .i64 50) ∧ ∃ v'', Dev w' B g bs bl v'' k d2 ∧ Keeps (Foot g bs bl v') W w' ∧ (v''.ownBlock = v'.ownBlock ∨ ∀ q, v''.ownBlock = some q → W.heap.size ≤ q) := by
        rw [hdn] at hC
        exact hC
      have HC0 := Lib.hid hC0
      have HDN2 := Lib.hid hdn
      clear hC hC0 hdn
      gi_wp2_with (first
        | (refine ⟨trivial, ?_⟩; gi_at_call 123; refine (CallsIn.inRound l0 (callsIn_wide.2 HC0.out)).mono ?_; rintro e W2 ⟨rfl, v2, hD2, hK2, hv2⟩
           have d1 : W2.cell? ⟨w.heap.size + 1 + 1, 0, none⟩ = some (.int .i64 0) := hK2.cell (cell_of_row W _ 0 _ _ _ HJ.out.r) (hnf _ (by omega) (by omega))
           have f1 : W2.frozen? ⟨w.heap.size + 1 + 1, 0, none⟩ = false := frozen_of_row W2 _ 0 _ _ (hK2.row HJ.out.r (hnf _ (by omega) (by omega)))))
      have gs := setCell_grows W2 (w.heap.size + 1 + 1) 0 (.int .i64 50)
      have hn2 : ∀ q, w.heap.size ≤ q → q < w.heap.size + 7 → ¬ Foot g bs bl v2 q := by
        intro q h1 h2 hfq
        rcases hfq with e | e | e | e
        · exact hnf q h1 h2 (.inl e)
        · exact hnf q h1 h2 (.inr (.inl e))
        · exact hnf q h1 h2 (.inr (.inr (.inl e)))
        · rcases hv2 with h5 | h5
          · exact hnf q h1 h2 (.inr (.inr (.inr (h5 ▸ e))))
          · have := h5 q e; omega
      have hz2 := hK2.size
      have hJ := HJ.out
      have hst := Dv.write_stays d x l (i + 1) ((n + 63) / 64) (by omega) (by rw [HW1.out]; show pw d2.down ≠ 0; rw [HDN2.out]; decide)
      refine ⟨by rw [hz0]; exact (HKR.out W2 hK2).trans (KeepsRec.grown gs (by omega) (fun r hr => by have := Option.some.inj hr; omega)), rfl, ?_, ?_, v2, ?_, ?_, ?_⟩
      · rw [hst, HW1.out]; show pw d2.down = 50; rw [HDN2.out]; rfl
      · have h1 := set_row (hK2.row hJ.r (hnf _ (by omega) (by omega))) 0 (.int .i64 50)
        exact h1
      · rw [hst, HW1.out]
        exact hD2.keeps (Keeps.one gs) (fun q hq hfq => by subst hq; exact hn2 _ (by omega) (by omega) hfq)
      · exact (hJ.kp.trans hK2 hnv).grown gs (fun r hr => .inr (by have := Option.some.inj hr; omega))
      · intro q hq
        rcases hv2 with h5 | h5
        · exact hv' q (h5 ▸ hq)
        · have := h5 q hq; exact .inr (by omega)
  case done =>
    intro W hJ hk
    obtain ⟨v', hD', hv'⟩ := hJ.dev
    have d1 : W.cell? ⟨w.heap.size + 1 + 1, 0, none⟩ = some (.int .i64 0) := cell_of_row W _ 0 _ _ _ hJ.r
    have f1 : W.frozen? ⟨w.heap.size + 1 + 1, 0, none⟩ = false := frozen_of_row W _ 0 _ _ hJ.r
    have HJ := Lib.hid hJ
    have HD' := Lib.hid hD'
    have HV' := Lib.hid hv'
    clear hJ hD' hv'
    rw [hz0] at hk ⊢
    gi_wp2
    have gs := setCell_grows W (w.heap.size + 1 + 1) 0 (.int .i64 0)
    have hr2 := set_row HJ.out.r 0 (.int .i64 0)
    have hD9 := row_far hk gs (fun e => by have := Option.some.inj e; omega)
    have hfin : Dev (W.setCell ⟨w.heap.size + 1 + 1, 0, none⟩ (.int .i64 0)) B g bs bl v' k (d.write x l ((n + 63) / 64)).1 := HD'.out.keeps (Keeps.one gs) (fun q hq hfq => by
      subst hq
      rcases hfq with e | e | e | e
      · have := hf _ (.inl e); omega
      · have := hf _ (.inr (.inl e)); omega
      · have := hf _ (.inr (.inr (.inl e))); omega
      · rcases HV'.out _ e with h5 | h5
        · have := hf _ (.inr (.inr (.inr h5))); omega
        · omega)
    have hkp := HJ.out.kp.grown gs (fun r hr => .inr (by have := Option.some.inj hr; omega))
    generalize W.setCell ⟨w.heap.size + 1 + 1, 0, none⟩ (.int .i64 0) = W9 at *
    have gd := grownBy_putObj' W9 (w.heap.size + 5) (.deferred none)
    refine ⟨by simp, .inl ⟨_, _, rfl, run_takeDeferred hD9, ?_⟩⟩
    refine ⟨_, results_cell1 (fn := Tryz.f92) rfl _ rfl (load_errno (cell_of_row _ _ 0 _ _ _ (row_far hr2 gd (fun e => by have := Option.some.inj e; omega)))), ?_⟩
    rw [HPP.out]
    refine ⟨by rw [HJ.out.e], v', hfin.keeps (Keeps.one gd) (fun q hq hfq => ?_), hkp.grown gd (fun r hr => .inr (by have := Option.some.inj hr; omega)), fun q hq => (HV'.out q hq).imp id (fun h => by omega)⟩
    subst hq
    rcases hfq with e | e | e | e
    · have := hf _ (.inl e); omega
    · have := hf _ (.inr (.inl e)); omega
    · have := hf _ (.inr (.inr (.inl e))); omega
    · rcases HV'.out _ e with h5 | h5
      · have := hf _ (.inr (.inr (.inr h5))); omega
      · omega
  case stop =>
    rintro cd W ⟨rfl, h1, h2, v', h4, h5, h6⟩ hk
    have HF := Lib.hid h4
    have HV' := Lib.hid h6
    have HKp := Lib.hid h5
    have H1 := Lib.hid h1
    clear h4 h5 h6 h1
    rw [hz0] at hk ⊢
    gi_wp2
    have gd := grownBy_putObj' W (w.heap.size + 5) (.deferred none)
    refine ⟨by simp, .inl ⟨_, _, rfl, run_takeDeferred hk, ?_⟩⟩
    refine ⟨_, results_cell1 (fn := Tryz.f92) rfl _ rfl (load_errno (cell_of_row _ _ 0 _ _ _ (row_far h2 gd (fun e => by have := Option.some.inj e; omega)))), ?_⟩
    rw [HPP.out]
    refine ⟨by rw [H1.out], v', HF.out.keeps (Keeps.one gd) (fun q hq hfq => ?_), HKp.out.grown gd (fun r hr => .inr (by have := Option.some.inj hr; omega)), fun q hq => (HV'.out q hq).imp id (fun h => by omega)⟩
    subst hq
    rcases hfq with e | e | e | e
    · have := hf _ (.inl e); omega
    · have := hf _ (.inr (.inl e)); omega
    · have := hf _ (.inr (.inr (.inl e))); omega
    · rcases HV'.out _ e with h5 | h5
      · have := hf _ (.inr (.inr (.inr h5))); omega
      · omega

end Go.Proofs.YtpalmobmabkadaaGreatDoor
