/- A device: its fuse; what is flushed. -/
import Derived.Test.YtdmcbojncgdccaaDevk
namespace Go.Proofs.Ytdmcbojncgdccaa
open Go.RowKit

section
variable {P : Program} {k : TypeId} {w : World} {b r n cnt : Nat} {f : Says} {left : Int → Bool}
theorem RangeI.le (h : RangeI P k w b r n f left cnt) : cnt ≤ n := by
  obtain ⟨D, lf, ⟨es, _, _, seen, _, _, _, hs, _, _, _, hc, _⟩, _⟩ := h
  rw [← hc]
  exact Nat.le_trans Array.size_filter_le hs
theorem RangeI.ne (h : RangeI P k w b r n f left cnt) : r ≠ b := by obtain ⟨D, lf, h1, _⟩ := h; exact h1.ne
theorem RangeI.lt (h : RangeI P k w b r n f left cnt) : r < w.heap.size := by obtain ⟨D, lf, h1, _⟩ := h; exact h1.lt
end
section
variable {P : Program} {w w' : World} {ops : Array Oper} {rest : List Oper} {o : Oper} {a : Act} {Q : Exit → Act → World → Prop}
theorem wpL_range (hgd : o.guard = none) (ty : TypeId) (x : Operand) (ho : o.op = .range ty x) {p v : Value} (hx : a.eval x = p) (hrun : (Instr.range ty p).run P w = .ok v w') (h : wpList P ops Q rest (a.put o.dst v) w') : wpList P ops Q (o :: rest) a w := by
  refine wpList_plain hgd fun K hK => ?_
  unfold Oper.wp
  simp only [execOp, ho, hx, Sem.run_bind, hrun, Result.andThen_ok, Sem.run_pure]
  exact hK _ _ h
theorem wpL_next (hgd : o.guard = none) (x : Operand) (ho : o.op = .next x false) {k : TypeId} (hk : P.underlying k = some (.int .i64)) {b r n cnt : Nat} {f : Says} {left : Int → Bool} (hx : a.eval x = .pointer (some ⟨r, 0, none⟩)) (hR : RangeI P k w b r n f left cnt)
    (hdone : (∀ x, left x = false) → wpList P ops Q rest (a.put o.dst (.tuple #[.bool false])) w)
    (hmore : ∀ x s w' cnt', Key x → left x = true → f x = some s → s.length = 64 → RangeI P k w' b r n f (fun y => left y && !decide (y = x)) cnt' → cnt' < cnt → w.grownBy w' (some r) → w'.heap.size = w.heap.size → (Instr.entry (.pointer (some ⟨r, 0, none⟩))).run P w' = .ok (.tuple #[.int .i64 x, secv s]) w' → wpList P ops Q rest (a.put o.dst (.tuple #[.bool true, .int .i64 x, secv s])) w') : wpList P ops Q (o :: rest) a w := by
  refine wpList_plain hgd fun K hK => ?_
  unfold Oper.wp
  rcases hR.next hk o.type with ⟨hl, hrun⟩ | ⟨x, s, w', cnt', hkx, hlx, hfx, hs, hrun, hR', hlt, hg, hz, hen⟩
  · simp only [execOp, ho, hx, Sem.run_bind, hrun, Result.andThen_ok, Sem.run_pure]
    exact hK _ _ (hdone hl)
  · simp only [execOp, ho, hx, Sem.run_bind, hrun, Result.andThen_ok, Sem.run_pure]
    exact hK _ _ (hmore x s w' cnt' hkx hlx hfx hs hR' hlt hg hz hen)
end

def Dv.fused (d : Dv) (n : Int) : Dv := { d with fuse := if n < 0 then 0 else n.toNat + 1 }
set_option maxRecDepth 8000 in
theorem fuse_any {w : World} {B g bs bl k : Nat} {v : Value} {d : Dv} (h : Dev w B g bs bl v k d) (n : Int) (hn : Key n) :
    Calls Try.prog 18 #[.pointer (some ⟨g, 0, none⟩), .int .i64 n] w fun e w' => e = .returned (.tuple #[]) ∧ Dev w' B g bs bl v k (d.fused n) ∧ w.grownBy w' (some g) := by
  have f5 := h.free 5
  have c5 := h.c5
  have r5 := set_row h.row 5 (.int .u64 0)
  by_cases h0 : n < 0
  · have hfin : Dev (w.setCell ⟨g, 5, none⟩ (.int .u64 0)) B g bs bl v k (d.fused n) := h.set (by rw [r5]; unfold devRow Dv.fused; simp [h0]) (setCell_grows w g 5 _) rfl rfl ⟨h.ok.n, h.ok.S, h.ok.ws, by show (if n < 0 then 0 else n.toNat + 1) < _; rw [if_pos h0]; omega⟩
    have HF := Lib.hid hfin
    have HG := Lib.hid (setCell_grows w g 5 (.int .u64 0))
    have d1 : decide (0 ≤ n) = false := by simp; omega
    clear hfin r5 h hn
    go_enter Try.func18, Try.ntmps18
    go_wp2
    go_returns
    exact ⟨rfl, HF.out, HG.out⟩
  · have hn' := hn
    unfold Key at hn'
    have w1 : IntKind.u64.wrap n = n := by rw [IntKind.wrap_u64]; omega
    have w2 : IntKind.u64.wrap (n + 1) = n + 1 := by rw [IntKind.wrap_u64]; omega
    have r55 := set_row r5 5 (.int .u64 (n + 1))
    have hfin : Dev ((w.setCell ⟨g, 5, none⟩ (.int .u64 0)).setCell ⟨g, 5, none⟩ (.int .u64 (n + 1))) B g bs bl v k (d.fused n) := h.set (by
      rw [r55]
      unfold devRow Dv.fused
      have : ((n.toNat + 1 : Nat) : Int) = n + 1 := by omega
      simp [h0, this]) (grownBy_tr (setCell_grows w g 5 _) (setCell_grows _ g 5 _)) rfl rfl ⟨h.ok.n, h.ok.S, h.ok.ws, by show (if n < 0 then 0 else n.toNat + 1) < _; rw [if_neg h0]; omega⟩
    have HF := Lib.hid hfin
    have HG := Lib.hid (grownBy_tr (setCell_grows w g 5 (.int .u64 0)) (setCell_grows _ g 5 (.int .u64 (n + 1))))
    have d1 : decide (0 ≤ n) = true := by simp; omega
    have d2 : 0 ≤ n := by omega
    clear hfin r5 r55 h hn hn'
    go_enter Try.func18, Try.ntmps18
    go_wp2
    go_returns
    exact ⟨rfl, HF.out, HG.out⟩

/-- What is safe when those of 'left' are still to come. -/
def Dv.mix (d : Dv) (left : Int → Bool) : Dv := { d with S := fun y => if left y = true then d.S y else d.seen y }
def Dv.flushed (d : Dv) : Dv := { d with S := d.seen, ws := [] }
def Dv.flush (d : Dv) : Dv × Int := if d.down = true then (d, 50) else if d.step.down = true then (d.step, 50) else (d.step.flushed, 0)
theorem Dv.mix_start (d : Dv) : d.mix (fun x => (lastOf d.ws x).isSome) = d := by
  unfold Dv.mix Dv.seen
  congr
  funext y
  show (if (lastOf d.ws y).isSome = true then d.S y else (lastOf d.ws y).getD (d.S y)) = d.S y
  cases h : lastOf d.ws y with
  | none => rfl
  | some s => rfl
theorem Dv.mix_step (d : Dv) (left : Int → Bool) (x : Int) (s : List UInt8) (hf : lastOf d.ws x = some s) : (d.mix left).keep x s = d.mix (fun y => left y && !decide (y = x)) := by
  unfold Dv.mix Dv.keep Dv.seen
  congr
  funext y
  by_cases hy : y = x
  · subst hy; simp [hf]
  · simp [hy]
theorem Dv.mix_end (d : Dv) (left : Int → Bool) (h : ∀ x, left x = false) : (d.mix left).settled = d.flushed := by
  unfold Dv.mix Dv.settled Dv.flushed
  congr
  funext y
  simp [h y]

set_option maxHeartbeats 4000000 in
set_option maxRecDepth 8000 in
theorem flush_any {w : World} {B g bs bl k : Nat} {v : Value} {d : Dv} (h : Dev w B g bs bl v k d) (hk : k + d.ws.length ≤ 800000000) (hd : d.done ≤ 800000000) :
    Calls Try.prog 12 #[.pointer (some ⟨g, 0, none⟩)] w fun e w' => e = .returned (.int .i64 d.flush.2) ∧ ∃ bl' v' k', Dev w' B g bs bl' v' k' d.flush.1 ∧ k' + d.flush.1.ws.length ≤ k + d.ws.length ∧ Keeps (Foot g bs bl v) w w' ∧ ∀ i, Foot g bs bl' v' i → Foot g bs bl v i ∨ w.heap.size ≤ i := by
  have c4 := h.c4
  by_cases hdn : d.down = true
  · have hfl : d.flush = (d, 50) := by unfold Dv.flush; rw [if_pos hdn]
    rw [hfl]
    rw [hdn] at c4
    have HH := Lib.hid h
    clear h hfl hdn hk hd
    go_enter Try.func12, Try.ntmps12
    go_wp2_with (go_at_call 28; refine (power_at g true _ c4).mono ?_; rintro e w1 ⟨rfl, rfl⟩)
    go_ret
    exact ⟨rfl, bl, v, k, HH.out, Nat.le_refl _, Keeps.refl _ _, fun i hi => .inl hi⟩
  · have hd0 : d.down = false := by simpa using hdn
    have hst := step_any h (by omega)
    by_cases hsd : d.step.down = true
    · have hfl : d.flush = (d.step, 50) := by unfold Dv.flush; rw [if_neg hdn, if_pos hsd]
      rw [hfl]
      rw [hd0] at c4
      rw [hsd] at hst
      have HH := Lib.hid hst
      clear h hfl hdn hk hd hst hsd
      go_enter Try.func12, Try.ntmps12
      go_wp2_with (first
        | (go_at_call 28; refine (power_at g false _ c4).mono ?_; rintro e w1 ⟨rfl, rfl⟩)
        | (go_at_call 29; refine HH.out.mono ?_; rintro e w1 ⟨rfl, hD1, hg1⟩)
        | fail)
      go_ret
      exact ⟨rfl, bl, v, k, hD1, Nat.le_refl _, (Keeps.one hg1).wide (fun i hi => .inl hi), fun i hi => .inl hi⟩
    · have hfl : d.flush = (d.step.flushed, 0) := by unfold Dv.flush; rw [if_neg hdn, if_neg hsd]
      have hsd' : d.step.down = false := by simpa using hsd
      rw [hfl]
      rw [hd0] at c4
      rw [hsd'] at hst
      obtain ⟨d1, hd1⟩ : ∃ d1, d1 = d.step := ⟨_, rfl⟩
      have hwl : d1.ws.length = d.ws.length := by rw [hd1]; rfl
      rw [← hd1] at hst ⊢
      have HST := Lib.hid hst
      have HK := Lib.hid hk
      have HWL := Lib.hid hwl
      have hgB := fun i (hi : Foot g bs bl v i) => (h.foot_lt hi).2
      have HFT := Lib.hid hgB
      clear h hfl hdn hk hd hst hsd hsd' hd0 hd1 hwl hgB
      go_enter Try.func12, Try.ntmps12
      go_wp2_with (first
        | (go_at_call 28; refine (power_at g false _ c4).mono ?_; rintro e w1 ⟨rfl, rfl⟩)
        | (go_at_call 29; refine HST.out.mono ?_; rintro e w1 ⟨rfl, hD1, hg1⟩
           have c3 := hD1.c3
           obtain ⟨w2, cnt0, hrr, hR0, hg2, hz2⟩ := hD1.last.range Try.underlying3 Try.underlying49
           obtain ⟨r, hr⟩ : ∃ r, r = w1.heap.size := ⟨_, rfl⟩
           rw [← hr] at hrr hR0
           have hK2 : Keeps (Foot g bs bl v) w w2 := ((Keeps.one hg1).wide (fun i hi => .inl hi)).grown hg2 (fun q e => by cases e)
           have HK2 := Lib.hid hK2
           have HR0 := Lib.hid hR0
           have hrw : w.heap.size ≤ r := by have := hg1.size; omega
           have HRW := Lib.hid hrw
           have hD2 := hD1.new hg2
           have HD2 := Lib.hid hD2
           clear hK2 hR0 hrw hD2 hD1 hg1 hg2 hr hz2)
        | (refine wpL_range rfl _ (.tmp 20) rfl rfl hrr ?_)
        | fail)
      go_frame
      go_loopw [5] (fun _ wr => ∃ left cnt k2, RangeI Try.prog 3 wr bl r d1.ws.length (lastOf d1.ws) left cnt ∧ Dev wr B g bs bl v k2 (d1.mix left) ∧ k2 + cnt ≤ k + d1.ws.length ∧ Keeps (Foot g bs bl v) w wr) (fun _ wr => wr.rangeLeft bl r)
      case atStart => exact ⟨_, cnt0, k, HR0.out, by rw [Dv.mix_start]; exact HD2.out, by have := HR0.out.le; omega, HK2.out⟩
      case round =>
        obtain ⟨left, cnt, k2, hR, hDr, hkc, hKr⟩ := hrel
        have HKC := Lib.hid hkc
        have HKr := Lib.hid hKr
        clear hkc hKr
        go_wp2_with (first
          | (refine wpL_next rfl (.tmp 21) rfl Try.underlying3 rfl hR (fun hall => ?_) (fun x s w3 cnt3 hkx hlx hfx hs3 hR3 hlt hg3 hz3 hen => ?_))
          | (refine wpL_new rfl rfl ?_; intro W1 b6 hb6 hr6 hg6 hz6)
          | (refine wpL_store rfl (.tmp 6) (.tmp 26) rfl rfl rfl hr6 rfl hs3 ?_
             intro W2 hr7 hg7 hz7
             have hrf : ∀ j, Foot g bs bl v j → j < wr.heap.size ∧ j ≠ r := fun j hj => by have h1 := HFT.out j hj; have h2 := HKr.out.size; have h3 := HRW.out; omega
             have hb6v := hb6.out
             have hKP := keep_any ((hDr.keeps (Keeps.one hg3) (fun j hj hf => (hrf j hf).2 hj)).new hg6 |>.keeps (Keeps.one hg7) (fun j hj hf => by have := (hrf j hf).1; omega)) x hkx s hs3 (by have h1 := HKC.out; have h2 := HK.out; have h3 := HWL.out; omega)
             have hrl := hR.lt
             have hbl := hR.owns.lt
             have hR7 := (hR3.kept hg6 (fun e => by cases e) (fun e => by cases e)).kept hg7 (fun e => by have := Option.some.inj e; omega) (fun e => by have := Option.some.inj e; omega)
             have hK7 : Keeps (Foot g bs bl v) w W2 := ((HKr.out.grown hg3 (fun q e => .inr (by have := Option.some.inj e; have h3 := HRW.out; omega))).grown hg6 (fun q e => by cases e)).grown hg7 (fun q e => .inr (by have := Option.some.inj e; have h2 := HKr.out.size; omega))
             have hsl := hDr.sl
             have HKP := Lib.hid hKP
             have HR7 := Lib.hid hR7
             have HK7 := Lib.hid hK7
             have HLE := Lib.hid (And.intro hR.left_eq hlt)
             clear hKP hR7 hK7 hrf hR3 hg3 hz3 hg6 hz6 hg7 hz7 hr6 hrl hbl hb6v hlt)
          | (refine wpL_load rfl (.tmp 6) rfl rfl hr7 hs3 ?_)
          | (go_at_call 30; refine HKP.out.mono ?_; rintro e w8 ⟨rfl, hD8, hg8⟩)
          | (go_at_call 31; refine (settle_any hDr).mono ?_; rintro e w9 ⟨rfl, hD9, hg9⟩)
          | fail)
        · go_ret
          rw [Dv.mix_end d1 left hall] at hD9
          refine ⟨rfl, wr.heap.size, .slice none 0 0, k2, hD9, ?_, HKr.out.grown hg9 (fun q e => .inl (.inl (Option.some.inj e).symm)), fun i hi => ?_⟩
          · have h1 := HKC.out
            have h2 := HWL.out
            show k2 + 0 ≤ _
            omega
          · rcases hi with hi | hi | hi | hi
            · exact .inl (.inl hi)
            · exact .inl (.inr (.inl hi))
            · exact .inr (by have := HKr.out.size; omega)
            · cases hi
        · have hR8 := HR7.out.kept hg8 (fun e => hsl (Option.some.inj e).symm) (fun e => by
            have h1 := Option.some.inj e
            have h2 := HFT.out bs (.inr (.inl rfl))
            have h3 := HRW.out
            omega)
          have h2 := HLE.out
          refine ⟨⟨_, cnt3, k2 + 1, hR8, ?_, ?_, HK7.out.grown hg8 (fun q e => .inl (.inr (.inl (Option.some.inj e).symm)))⟩, ?_⟩
          · rw [← Dv.mix_step d1 left x s hfx]
            exact hD8
          · have h1 := HKC.out
            omega
          · rw [hR8.left_eq, h2.1]
            exact h2.2

end Go.Proofs.Ytdmcbojncgdccaa
