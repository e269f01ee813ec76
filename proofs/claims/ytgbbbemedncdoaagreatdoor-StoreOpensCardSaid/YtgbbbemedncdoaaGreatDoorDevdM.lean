/- A device: a new one, and what is read of it. -/
import Derived.Test.YtgbbbemedncdoaaGreatDoorDoneM
namespace Go.Proofs.YtgbbbemedncdoaaGreatDoor
set_option maxRecDepth 20000
open Go.RowKit

section
variable {P : Program} {w : World} {ops : Array Oper} {rest : List Oper} {o : Oper} {a : Act} {Q : Exit → Act → World → Prop}
/-- What a map says of a key, at its operation. -/
theorem wpL_look (hgd : o.guard = none) (ty : TypeId) (x y : Operand) (ok : Bool) (ho : o.op = .lookup ty x y ok) {p q v : Value} (hx : a.eval x = p) (hy : a.eval y = q) (hrun : (Instr.lookup ty p q ok).run P w = .ok v w) (h : wpList P ops Q rest (a.put o.dst v) w) : wpList P ops Q (o :: rest) a w := by
  refine wpList_plain hgd fun K hK => ?_
  unfold Oper.wp
  simp only [execOp, ho, hx, hy, Sem.run_bind, hrun, Result.andThen_ok, Sem.run_pure]
  exact hK _ _ h
end

set_option maxHeartbeats 1000000 in
set_option maxRecDepth 8000 in
theorem seen_any {w : World} {B g bs bl k : Nat} {v : Value} {d : Dv} (h : Dev w B g bs bl v k d) (x : Int) (hx : Key x) :
    Calls Tryz.prog 105 #[.pointer (some ⟨g, 0, none⟩), .int .i64 x] w fun e w' => e = .returned (secv (d.seen x)) ∧ Below w.heap.size w w' := by
  have hlook := fun (W : World) (hb : w.grownBy W none) => (h.new hb).last.lookOk Tryz.underlying3 Tryz.underlying90 (zero_sec W) Z_len x hx
  have hsafe := fun (W : World) (hb : w.grownBy W none) => (h.new hb).safe.look Tryz.underlying3 Tryz.underlying90 (zero_sec W) Z_len x hx
  have hseen : d.seen x = (lastOf d.ws x).getD (d.S x) := rfl
  simp only [nz_get] at hsafe
  have hl64 : ((lastOf d.ws x).getD Z).length = 64 := (hlook w (World.grownBy.refl w _)).2
  have hs64 := h.ok.S x
  have HH := Lib.hid h
  cases hl : lastOf d.ws x with
  | some s =>
    rw [hl] at hlook hl64 hseen
    simp only [Option.getD_some, Option.isSome_some] at hlook hl64 hseen
    rw [hseen]
    have HL := Lib.hid (fun W hb => (hlook W hb).1)
    have HS := Lib.hid hl64
    clear hlook hsafe hseen hl hl64 hs64 hx h
    go_enter Tryz.func105, Tryz.ntmps105
    go_wp2_with (first
      | (refine wpL_new (o := ⟨some 4, _, _, _, _, _⟩) rfl rfl ?_; intro W1 b1 hb1 hr1 hg1 hz1; have c3 := (HH.out.new hg1).c3)
      | (refine wpL_look rfl _ (.tmp 11) (.tmp 12) true rfl rfl rfl (HL.out W1 hg1) ?_)
      | (refine wpL_new (o := ⟨some 5, _, _, _, _, _⟩) rfl rfl ?_; intro W2 b2 hb2 hr2 hg2 hz2; have hr12 := row_far hr1 hg2 (fun e => by cases e))
      | (refine wpL_store rfl (.tmp 5) (.tmp 14) rfl rfl rfl hr2 rfl HS.out ?_; intro W3 hr3 hg3 hz3; have hr13 := row_far hr12 hg3 (fun e => by have := Option.some.inj e; have := hb2.out; have := hz1.out; omega))
      | (refine wpL_load rfl (.tmp 5) rfl rfl hr3 HS.out ?_)
      | (refine wpL_store rfl (.tmp 4) (.tmp 17) rfl rfl rfl hr13 rfl HS.out ?_; intro W4 hr4 hg4 hz4)
      | fail)
    have h1 := hb1.out
    have h2 := hb2.out
    have h3 := hz1.out
    have h4 := hz2.out
    have h5 := hz3.out
    have hb : Below w.heap.size w W4 := ((((Below.refl _ _).grown hg1 (Nat.le_refl _) (fun k e => by cases e)).grown hg2 (by omega) (fun k e => by cases e)).grown hg3 (by omega) (fun k e => by have := Option.some.inj e; omega)).grown hg4 (by omega) (fun k e => by have := Option.some.inj e; omega)
    refine bodyPost_ret (results_cell_row (fn := Tryz.f105) rfl _ W4 b1 _ _ (0, 0) _ rfl hr4 Tryz.underlying99 rfl (by rw [size_sec]; simp [u8s_len, HS.out])) rfl ⟨rfl, hb⟩
  | none =>
    rw [hl] at hlook hseen
    simp only [Option.getD_none, Option.isSome_none] at hlook hseen
    rw [hseen]
    have HL := Lib.hid (fun W hb => (hlook W hb).1)
    have HSF := Lib.hid (fun W hb => (hsafe W hb).1)
    have HS := Lib.hid hs64
    clear hlook hsafe hseen hl hl64 hs64 hx h
    generalize d.S x = s at *
    go_enter Tryz.func105, Tryz.ntmps105
    go_wp2_with (first
      | (refine wpL_new (o := ⟨some 4, _, _, _, _, _⟩) rfl rfl ?_; intro W1 b1 hb1 hr1 hg1 hz1; have c3 := (HH.out.new hg1).c3)
      | (refine wpL_look rfl _ (.tmp 11) (.tmp 12) true rfl rfl rfl (HL.out W1 hg1) ?_)
      | (refine wpL_new (o := ⟨some 5, _, _, _, _, _⟩) rfl rfl ?_; intro W2 b2 hb2 hr2 hg2 hz2; have hr12 := row_far hr1 hg2 (fun e => by cases e))
      | (refine wpL_store rfl (.tmp 5) (.tmp 14) rfl rfl rfl hr2 rfl Z_len ?_; intro W3 hr3 hg3 hz3; have hr13 := row_far hr12 hg3 (fun e => by have := Option.some.inj e; have := hb2.out; have := hz1.out; omega)
         have hg03 : w.grownBy W3 none := ⟨by rw [hg3.os, hg2.os, hg1.os], by rw [hg3.tape, hg2.tape, hg1.tape], by rw [hg3.output, hg2.output, hg1.output], by have := hz1.out; have := hz2.out; have := hz3.out; have := hb1.out; have := hb2.out; omega, fun i hi _ => (hg3.block i (by have := hz1.out; have := hz2.out; have := hb1.out; have := hb2.out; omega) (fun e => by have := Option.some.inj e; have := hb2.out; have := hz1.out; have := hb1.out; omega)).trans ((hg2.block i (by have := hz1.out; have := hb1.out; omega) (fun e => by cases e)).trans (hg1.block i hi (fun e => by cases e)))⟩
         have c1 := (HH.out.new hg03).c1)
      | (refine wpL_look rfl _ (.tmp 21) (.tmp 22) false rfl rfl rfl (HSF.out W3 hg03) ?_)
      | (refine wpL_store rfl (.tmp 4) (.tmp 23) rfl rfl rfl hr13 rfl HS.out ?_; intro W4 hr4 hg4 hz4)
      | fail)
    have h1 := hb1.out
    have h2 := hb2.out
    have h3 := hz1.out
    have h4 := hz2.out
    have h5 := hz3.out
    have hb : Below w.heap.size w W4 := ((Below.refl _ _).grown hg03 (Nat.le_refl _) (fun k e => by cases e)).grown hg4 (by omega) (fun k e => by have := Option.some.inj e; omega)
    refine bodyPost_ret (results_cell_row (fn := Tryz.f105) rfl _ W4 b1 _ _ (0, 0) _ rfl hr4 Tryz.underlying99 rfl (by rw [size_sec]; simp [u8s_len, HS.out])) rfl ⟨rfl, hb⟩

end Go.Proofs.YtgbbbemedncdoaaGreatDoor
