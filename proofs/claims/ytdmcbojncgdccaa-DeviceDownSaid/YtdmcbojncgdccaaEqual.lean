/- Whether two devices are the same: of a device and its copy. -/
import Derived.Test.YtdmcbojncgdccaaClone
namespace Go.Proofs.Ytdmcbojncgdccaa
open Go.RowKit

theorem eqIn_sec (s : List UInt8) (hs : s.length = 64) (w : World) (d : Nat) : (Op.equalIn (d + 1 + 1) 63 (secv s) (secv s)).run Try.prog w = .ok true w := by
  unfold secv
  rw [run_equalIn_arr (d + 1) w 63 5 64 _ _ Try.underlying63 (by kernel_rfl), run_eqAll d 5 Try.underlying5 s s rfl w 64 0 (by omega) rfl]
  simp
theorem neq_sec (s : List UInt8) (hs : s.length = 64) (w : World) : (binOp .neq 63 (secv s) (secv s)).run Try.prog w = .ok (.bool false) w := by
  have h := eqIn_sec s hs w 9998
  unfold secv at h ⊢
  rw [run_neq_struct, h]
  rfl
theorem fields_chg : (Try.prog.fieldsOf 68).toList = [{ name := "at", type := 3, offset := 0, embedded := false, tag := "", pkgPath := "keelson/device", byteOffset := 0 }, { name := "bytes", type := 63, offset := 1, embedded := false, tag := "", pkgPath := "keelson/device", byteOffset := 8 }] := by
  unfold Program.fieldsOf
  rw [Try.underlying68]
theorem eqFields2 {P : Program} {w : World} (d : Nat) (xs : Array Value) (f0 f1 : Field) (n0 : f0.name ≠ "_") (n1 : f1.name ≠ "_") (a b : Value) (h0 : (Go.part f0.type xs f0.offset).run P w = .ok a w) (h1 : (Go.part f1.type xs f1.offset).run P w = .ok b w)
    (e0 : (Op.equalIn d f0.type a a).run P w = .ok true w) (e1 : (Op.equalIn d f1.type b b).run P w = .ok true w) : (Op.eqFields d xs xs [f0, f1]).run P w = .ok true w := by
  unfold Op.eqFields
  rw [if_pos n0]
  simp only [Sem.run_bind, h0, e0, Result.andThen_ok, Bool.not_true, Bool.false_eq_true, if_false]
  unfold Op.eqFields
  rw [if_pos n1]
  simp only [Sem.run_bind, h1, e1, Result.andThen_ok, Bool.not_true, Bool.false_eq_true, if_false]
  unfold Op.eqFields
  rfl
theorem neq_chg (p : Int × List UInt8) (hp : p.2.length = 64) (w : World) : (binOp .neq 68 (chgv p) (chgv p)).run Try.prog w = .ok (.bool false) w := by
  have hsec := eqIn_sec p.2 hp w 9997
  have hagg : (isAgg 63).run Try.prog w = .ok true w := by unfold isAgg; rw [Sem.run_bind, run_underlying Try.underlying63 w]; rfl
  have hint : (isAgg 3).run Try.prog w = .ok false w := by unfold isAgg; rw [Sem.run_bind, run_underlying Try.underlying3 w]; rfl
  have hsz : (Go.sizeOf 63).run Try.prog w = .ok 64 w := by kernel_rfl
  have h0 : (Go.part 3 (chg p).toArray 0).run Try.prog w = .ok (.int .i64 p.1) w := by
    simp [Go.part, Sem.run_bind, hint, chg, Result.andThen]
  have h1 : (Go.part 63 (chg p).toArray 1).run Try.prog w = .ok (secv p.2) w := by
    have e : List.take 64 (chg p).tail = u8s p.2 := by
      show List.take 64 (u8s p.2) = _
      exact List.take_of_length_le (by rw [u8s_len, hp]; exact Nat.le_refl _)
    simp [Go.part, Sem.run_bind, hagg, hsz, Result.andThen, secv]
    exact e
  have hi : (Op.equalIn 9999 3 (.int .i64 p.1) (.int .i64 p.1)).run Try.prog w = .ok (p.1 == p.1) w := run_equalIn_int (P := Try.prog) w 9998 3 .i64 .i64 p.1 p.1 Try.underlying3
  have hsec' : (Op.equalIn 9999 63 (secv p.2) (secv p.2)).run Try.prog w = .ok true w := hsec
  clear hsec
  have hr : (Op.eqFields 9999 (chg p).toArray (chg p).toArray [{ name := "at", type := 3, offset := 0, embedded := false, tag := "", pkgPath := "keelson/device", byteOffset := 0 }, { name := "bytes", type := 63, offset := 1, embedded := false, tag := "", pkgPath := "keelson/device", byteOffset := 8 }]).run Try.prog w = .ok true w :=
    eqFields2 9999 _ _ _ (by simp) (by simp) _ _ h0 h1 (hi.trans (by rw [beq_self_eq_true])) hsec'
  unfold chgv
  rw [run_neq_struct, run_equalIn_struct w 9999 68 _ _ (by unfold Program.fieldsOf; rw [Try.underlying68]) (by kernel_rfl), fields_chg, hr]
  simp only [Result.andThen_ok, Bool.not_true]
theorem guard_chg (p q : Int × List UInt8) (x y : Operand) (w : World) : (eqGuard .neq 68 x y (chgv p) (chgv q)).run Try.prog w = .ok () w := run_eqGuard_agg w _ _ _ _ _ _ (by kernel_rfl)
theorem guard_nsec (s u : List UInt8) (x y : Operand) (w : World) : (eqGuard .neq 63 x y (secv s) (secv u)).run Try.prog w = .ok () w := run_eqGuard_agg w _ _ _ _ _ _ (by kernel_rfl)

section
variable {ops : Array Oper} {C : World → Prop} {K : Act → Prop} {o : Oper} {rest : List Oper} {a : Act}
/-- Two changes that are the same. -/
theorem wpQ_neqc (hgd : o.guard = none) (x y : Operand) (t : TypeId) (ho : o.op = .binOp .neq 68 x y t) {p : Int × List UInt8} (hx : a.eval x = chgv p) (hy : a.eval y = chgv p) (hp : p.2.length = 64) (h : wpQuiet Try.prog ops C K rest (a.put o.dst (.bool false))) : wpQuiet Try.prog ops C K (o :: rest) a :=
  wpQ_val hgd (.bool false) (fun w _ => by
    have h1 := neq_chg p hp w
    have h2 := guard_chg p p x y w
    simp only [execOp, ho, hx, hy, Sem.run_bind, h1, h2, Result.andThen_ok, Sem.run_pure]) h
end

set_option maxHeartbeats 4000000 in
set_option maxRecDepth 8000 in
theorem chgEqual_any {w : World} {A A' : Option Addr} {c c' : Nat} {ws : List (Int × List UInt8)} (h : Rd w w.heap.size 65 A ws.length c (chgs ws)) (h' : Rd w w.heap.size 65 A' ws.length c' (chgs ws)) (h64 : ∀ p ∈ ws, p.2.length = 64) (hn : ws.length ≤ 100000) :
    Calls Try.prog 40 #[.slice A ws.length c, .slice A' ws.length c'] w fun e w' => e = .returned (.bool true) ∧ Below w.heap.size w w' := by
  have hget := fun i p (hi : ws[i]? = some p) => chgs_get ws h64 i p hi
  have hmem := fun i p (hi : ws[i]? = some p) => h64 p (List.mem_of_getElem? hi)
  have hle : ∀ i, i < ws.length → ∃ p, ws[i]? = some p := fun i hi => ⟨_, List.getElem?_eq_getElem hi⟩
  generalize ws.length = n at *
  have HG := Lib.hid hget
  have HM := Lib.hid hmem
  have HE := Lib.hid hle
  have H1 := Lib.hid h
  have H2 := Lib.hid h'
  have hni : (n : Int) ≤ 100000 := by omega
  have hnn : ((n : Int) != (n : Int)) = false := bne_self_eq_false _
  clear hget hmem hle h h' h64
  go_enter Try.func40, Try.ntmps40
  go_wp2
  go_loopw [5, 13] (fun _ ir wr => ∃ (i : Nat), i ≤ n ∧ ir = .int .i64 (i : Int) ∧ Below w.heap.size w wr) (fun _ ir _ => n - (intOf ir).toNat)
  case atStart => exact ⟨0, Nat.zero_le _, rfl, Below.refl _ _⟩
  case round =>
    obtain ⟨i, hi, rfl, hb⟩ := hrel
    have HB := Lib.hid hb
    clear hb
    by_cases hlt : i < n
    · obtain ⟨p, hp⟩ := HE.out i hlt
      have hp64 := HM.out i p hp
      obtain ⟨b, o, rfl, hbb, hcc⟩ := H1.out.2.2.2 (by omega)
      obtain ⟨b', o', rfl, hbb', hcc'⟩ := H2.out.2.2.2 (by omega)
      have hL1 := fun (W : World) (hb : Below w.heap.size w W) => load_chg (w := W) (b := b) (o := o + i * 65) (p := p) (fun j u hu => by
        rw [Nat.add_assoc]
        exact (hb.cell (p := ⟨b, _, none⟩) hbb).trans (hcc _ _ (HG.out i p hp j u hu))) hp64
      have hL2 := fun (W : World) (hb : Below w.heap.size w W) => load_chg (w := W) (b := b') (o := o' + i * 65) (p := p) (fun j u hu => by
        rw [Nat.add_assoc]
        exact (hb.cell (p := ⟨b', _, none⟩) hbb').trans (hcc' _ _ (HG.out i p hp j u hu))) hp64
      have HL1 := Lib.hid hL1
      have HL2 := Lib.hid hL2
      have HLT := Lib.hid hlt
      have HP64 := Lib.hid hp64
      have hlti : (i : Int) < (n : Int) := by omega
      clear hcc hcc' hp hL1 hL2 hp64
      go_wp2
      refine wp_segs [] [0, 1, 2, 3, 4, 5, 6, 7, 8] (fun x => Below w.heap.size w x) (by kernel_rfl) (by kernel_rfl) (fun d _ _ _ _ h => by cases d <;> exact h) HB.out.drew ?_
      intro f hf
      simp only [pickI, Option.toList_some, List.cons_append, List.nil_append, List.getElem?_toArray, List.getElem?_cons_succ, List.getElem?_cons_zero]
      iterate 3 go_big_quiet_step (fail)
      refine wpQ_load rfl _ (.tmp 18) rfl rfl (fun W hW => HL1.out W (by obtain ⟨z, rfl⟩ := hW; exact hf z)) ?_
      go_frame
      iterate 3 go_big_quiet_step (fail)
      refine wpQ_load rfl _ (.tmp 22) rfl rfl (fun W hW => HL2.out W (by obtain ⟨z, rfl⟩ := hW; exact hf z)) ?_
      go_frame
      refine wpQ_neqc rfl (.tmp 19) (.tmp 23) _ rfl rfl rfl HP64.out ?_
      go_frame
      refine wpQuiet_nil ?_
      clear hf f
      go_wp2
      go_roundw
      case rel => exact ⟨i + 1, by have := HLT.out; omega, by go_num, HB.out.drew⟩
      case measure => have := HLT.out; simp [intOf]; omega
    · obtain rfl : i = n := by omega
      go_wp2
      go_ret
      exact ⟨rfl, HB.out⟩

section
variable {w : World} {ops : Array Oper} {rest : List Oper} {o : Oper} {a : Act} {Q : Exit → Act → World → Prop}
/-- A sector taken out of its block, and two of them that are the same, where a test wants them. -/
theorem wpL_loadw (hw : Region.wanted o (yielded ops a.tmps) = true) (x : Operand) (ho : o.op = .load 63 x) {g : Nat} {e : TypeId} {fr : Nat × Nat} {s : List UInt8} (hx : a.eval x = .pointer (some ⟨g, 0, none⟩)) (hr : w.heap[g]? = some (.cells (u8s s).toArray e fr)) (hs : s.length = 64)
    (h : wpList Try.prog ops Q rest (a.put o.dst (secv s)) w) : wpList Try.prog ops Q (o :: rest) a w := by
  refine wpList_step fun K hK => ?_
  rw [if_pos hw]
  have hrun := load_sec hr hs
  unfold Oper.wp
  simp [execOp, ho, hx, hrun, Result.andThen]
  exact hK _ _ h
theorem wpL_neqw (hw : Region.wanted o (yielded ops a.tmps) = true) (x y : Operand) (t : TypeId) (ho : o.op = .binOp .neq 63 x y t) {s : List UInt8} (hx : a.eval x = secv s) (hy : a.eval y = secv s) (hs : s.length = 64)
    (h : wpList Try.prog ops Q rest (a.put o.dst (.bool false)) w) : wpList Try.prog ops Q (o :: rest) a w := by
  refine wpList_step fun K hK => ?_
  rw [if_pos hw]
  have h1 := neq_sec s hs w
  have h2 := guard_nsec s s x y w
  unfold Oper.wp
  simp only [execOp, ho, hx, hy, Sem.run_bind, h1, h2, Result.andThen_ok, Sem.run_pure]
  exact hK _ _ h
end

set_option maxHeartbeats 4000000 in
set_option maxRecDepth 8000 in
theorem mapsEqual_any {w : World} {b1 b2 n : Nat} {f : Says} (h1 : MapI Try.prog 3 w b1 n f) (ho : w.heap[b2]? = w.heap[b1]?) :
    Calls Try.prog 39 #[.map (some b1), .map (some b2)] w fun e w' => e = .returned (.bool true) ∧ Below w.heap.size w w' := by
  obtain ⟨D, ⟨es, clock, o1, F, hs, hD⟩, hr⟩ := h1
  have o2 := ho.trans o1
  have h1 : MapI Try.prog 3 w b1 n f := ⟨D, ⟨es, clock, o1, F, hs, hD⟩, hr⟩
  have h2 : MapI Try.prog 3 w b2 n f := ⟨D, ⟨es, clock, o2, F, hs, hD⟩, hr⟩
  have hb1 : b1 < w.heap.size := h1.lt
  have hb2 : b2 < w.heap.size := h2.lt
  obtain ⟨w2, cnt0, hrr, hR0, hg2, hz2⟩ := h1.range Try.underlying3 Try.underlying49
  obtain ⟨r, hrv⟩ : ∃ r, r = w.heap.size := ⟨_, rfl⟩
  rw [← hrv] at hrr hR0
  have hB2 : Below w.heap.size w w2 := (Below.refl _ _).grown hg2 (Nat.le_refl _) (fun k e => by cases e)
  have hm1 : w.ownsMap Try.prog 3 secElem b1 n D := ⟨es, clock, o1, F, hs, hD⟩
  have hm2 : w.ownsMap Try.prog 3 secElem b2 n D := ⟨es, clock, o2, F, hs, hD⟩
  have hl1 := hm1.len Try.underlying49 3
  have hl2 := hm2.len Try.underlying49 3
  obtain ⟨L, hL⟩ : ∃ L : Int, L = Maps.size D := ⟨_, rfl⟩
  rw [← hL] at hl1 hl2
  have hLL : (L != L) = false := bne_self_eq_false _
  clear hm1 hm2 hL o1 o2
  have HR0 := Lib.hid hR0
  have HB2 := Lib.hid hB2
  have HRV := Lib.hid hrv
  have H2 := Lib.hid h2
  clear hR0 hB2 hg2 hz2 hrv h1 h2 hs hD hr ho
  go_enter Try.func39, Try.ntmps39
  go_wp2_with (first
    | (refine wpL_range rfl _ (.tmp 14) rfl rfl hrr ?_)
    | fail)
  go_frame
  clear hl1 hl2 hLL hrr
  go_loopw [5] (fun _ wr => ∃ left cnt, RangeI Try.prog 3 wr b1 r n f left cnt ∧ Below w.heap.size w wr) (fun _ wr => wr.rangeLeft b1 r)
  case atStart => exact ⟨_, cnt0, HR0.out, HB2.out⟩
  case round =>
    obtain ⟨left, cnt, hR, hb⟩ := hrel
    have HB := Lib.hid hb
    have HLE := Lib.hid hR.left_eq
    have HRL := Lib.hid hR.lt
    have h2r := H2.out.same (hb.block b2 hb2)
    have hlook := fun (W : World) (x : Int) (hx : Key x) (hW : W.heap[b2]? = wr.heap[b2]?) => (h2r.same hW).lookOk Try.underlying3 Try.underlying49 (zero_sec W) Z_len x hx
    have HLK := Lib.hid hlook
    clear hb h2r hlook
    go_wp2_with (first
      | (refine wpL_next rfl (.tmp 15) rfl Try.underlying3 rfl hR (fun hall => ?_) (fun x s w3 cnt3 hkx hlx hfx hs3 hR3 hlt hg3 hz3 hen => ?_))
      | (refine wpL_new (o := ⟨some 6, _, _, _, _, _⟩) rfl rfl ?_; intro W1 b6 hb6 hr6 hg6 hz6
         have HRR := Lib.hid hR3
         have HG3 := Lib.hid hg3
         have HZ3 := Lib.hid hz3
         have HLT := Lib.hid hlt
         clear hR3 hg3 hz3 hlt)
      | (refine wpL_store rfl (.tmp 6) (.tmp 20) rfl rfl rfl hr6 rfl hs3 ?_; intro W2 hr7 hg7 hz7
         have hszr := HB.out.size
         have hW2 : W2.heap[b2]? = wr.heap[b2]? := by
           have h3 := HG3.out.block b2 (by omega) (fun e => by have := Option.some.inj e; have := HRV.out; omega)
           have h4 := hg6.block b2 (by have := HZ3.out; omega) (fun e => by cases e)
           have h5 := hg7.block b2 (by have := HZ3.out; have := hz6.out; have := hb6.out; omega) (fun e => by have := Option.some.inj e; have := HZ3.out; have := hb6.out; omega)
           exact h5.trans (h4.trans h3)
         have hlk := HLK.out W2 x hkx hW2
         rw [hfx] at hlk
         simp only [Option.getD_some, Option.isSome_some] at hlk
         have HLR := Lib.hid hlk.1
         clear hlk hW2 hszr)
      | (refine wpL_look rfl _ (.tmp 22) (.tmp 23) true rfl rfl rfl HLR.out ?_)
      | (refine wpL_new (o := ⟨some 7, _, _, _, _, _⟩) rfl rfl ?_; intro W3 b7 hb7 hr8 hg8 hz8
         have hr7' := row_far hr7 hg8 (fun e => by cases e))
      | (refine wpL_store rfl (.tmp 7) (.tmp 25) rfl rfl rfl hr8 rfl hs3 ?_; intro W4 hr9 hg9 hz9
         have hr7'' := row_far hr7' hg9 (fun e => by have := Option.some.inj e; have := hb7.out; have := hz7.out; have := hz6.out; omega))
      | (refine wpL_loadw rfl (.tmp 6) rfl rfl hr7'' hs3 ?_)
      | (refine wpL_loadw rfl (.tmp 7) rfl rfl hr9 hs3 ?_)
      | (refine wpL_neqw rfl (.tmp 30) (.tmp 31) _ rfl rfl rfl hs3 ?_)
      | fail)
    · go_ret
      exact ⟨rfl, HB.out⟩
    · have z3 := HZ3.out
      have z6 := hz6.out
      have z7 := hz7.out
      have z8 := hz8.out
      have e6 := hb6.out
      have e7 := hb7.out
      have hrl := HRR.out.lt
      have hbl := HRR.out.owns.lt
      have hbs := HB.out.size
      have hrv := HRV.out
      have hR4 := (((HRR.out.kept hg6 (fun e => by cases e) (fun e => by cases e)).kept hg7 (fun e => by have := Option.some.inj e; omega) (fun e => by have := Option.some.inj e; omega)).kept hg8 (fun e => by cases e) (fun e => by cases e)).kept hg9 (fun e => by have := Option.some.inj e; omega) (fun e => by have := Option.some.inj e; omega)
      refine ⟨⟨_, cnt3, hR4, ?_⟩, ?_⟩
      · exact ((((HB.out.grown HG3.out HB.out.size (fun k e => by have := Option.some.inj e; omega)).grown hg6 (by omega) (fun k e => by cases e)).grown hg7 (by omega) (fun k e => by have := Option.some.inj e; omega)).grown hg8 (by omega) (fun k e => by cases e)).grown hg9 (by omega) (fun k e => by have := Option.some.inj e; omega)
      · rw [hR4.left_eq, HLE.out]
        exact HLT.out

set_option maxHeartbeats 4000000 in
set_option maxRecDepth 8000 in
/-- A device and another one that has the same sectors. -/
theorem same_any {w : World} {B g bs bl k G b1 b2 : Nat} {v v' : Value} {d : Dv} (h : Dev w B g bs bl v k d) (hn : d.ws.length ≤ 100000) (hr : w.heap[G]? = some (.cells (devRow d b1 b2 v') 53 (0, 0))) (hm : w.heap[b1]? = w.heap[bs]?) {C : Nat} (hw : w.ownsRow C 68 65 v' d.ws.length (chgs d.ws)) :
    Calls Try.prog 20 #[.pointer (some ⟨g, 0, none⟩), .pointer (some ⟨G, 0, none⟩)] w fun e w' => e = .returned (.bool true) ∧ Below w.heap.size w w' := by
  have hg0 : g < w.heap.size := h.lt
  have hG0 : G < w.heap.size := (Array.getElem?_eq_some_iff.1 hr).1
  have hbs : bs < w.heap.size := h.safe.lt
  have hb1 : b1 < w.heap.size := by
    obtain ⟨D, ⟨es, clock, o1, _⟩, _⟩ := h.safe
    rw [o1] at hm
    exact (Array.getElem?_eq_some_iff.1 hm).1
  have hME := fun (W : World) (hb : Below w.heap.size w W) => mapsEqual_any (w := W) (b2 := b1) (h.safe.same (hb.block bs hbs)) ((hb.block b1 hb1).trans (hm.trans (hb.block bs hbs).symm))
  obtain ⟨A, c, rfl⟩ := ownsRow_form h.waits
  obtain ⟨A', c', rfl⟩ := ownsRow_form hw
  have hSE := fun (W : World) (hb : Below w.heap.size w W) => chgEqual_any (w := W) (((ownsRow_rd h.waits).below hb).more hb.size) (((ownsRow_rd hw).below hb).more hb.size) (fun p hp => (h.ok.ws p hp).1) hn
  have c0 := h.c0
  have c1 := h.c1
  have c2 := h.c2
  have c4 := h.c4
  have k0 := cell_of_row w G 0 _ _ _ hr
  have k1 := cell_of_row w G 1 _ _ _ hr
  have k2 := cell_of_row w G 2 _ _ _ hr
  have k4 := cell_of_row w G 4 _ _ _ hr
  have HME := Lib.hid hME
  have HSE := Lib.hid hSE
  clear hME hSE h hr hm hw
  obtain ⟨dn, S, ws, dw, fu, don⟩ := d
  unfold devRow at k0 k1 k2 k4
  dsimp only at *
  have k0 : w.cell? ⟨G, 0, none⟩ = some (.int .i64 (dn : Int)) := k0
  have k1 : w.cell? ⟨G, 1, none⟩ = some (.map (some b1)) := k1
  have k2 : w.cell? ⟨G, 2, none⟩ = some (.slice A' ws.length c') := k2
  have k4 : w.cell? ⟨G, 4, none⟩ = some (.bool dw) := k4
  go_enter Try.func20, Try.ntmps20
  go_wp2
  refine wp_low w.heap.size [([0, 1, 2, 3, 4, 5, 6, 7, 8, 9, 10, 11, 12, 13, 14, 15, 16, 17, 18, 19, 20, 21, 22, 23, 24, 25, 26, 27, 28], 29), ([30, 31, 32, 33, 34, 35, 36, 37, 38, 39], 40)] [41, 42] (by kernel_rfl) (by kernel_rfl) (fun d _ _ _ _ h => by cases d <;> exact h) (Nat.le_refl _) fun wd hbd => ?_
  intro q hq
  have m0 := fun z => ((hq z).cell (p := ⟨g, 0, none⟩) hg0).trans c0
  have m1 := fun z => ((hq z).cell (p := ⟨g, 1, none⟩) hg0).trans c1
  have m2 := fun z => ((hq z).cell (p := ⟨g, 2, none⟩) hg0).trans c2
  have m4 := fun z => ((hq z).cell (p := ⟨g, 4, none⟩) hg0).trans c4
  have n0 := fun z => ((hq z).cell (p := ⟨G, 0, none⟩) hG0).trans k0
  have n1 := fun z => ((hq z).cell (p := ⟨G, 1, none⟩) hG0).trans k1
  have n2 := fun z => ((hq z).cell (p := ⟨G, 2, none⟩) hG0).trans k2
  have n4 := fun z => ((hq z).cell (p := ⟨G, 4, none⟩) hG0).trans k4
  simp only [pickI, Option.toList_some, List.cons_append, List.nil_append, List.getElem?_toArray, List.getElem?_cons_succ, List.getElem?_cons_zero]
  repeat (go_big_quiet_step (fail))
  refine wpQuiet_nil ?_
  clear m0 m1 m2 m4 n0 n1 n2 n4 hq q
  refine seg_op (by simp only [List.getElem?_toArray, List.getElem?_cons_succ, List.getElem?_cons_zero]; rfl) fun K hK => ?_
  go_simp
  refine (HME.out _ hbd).mono ?_
  rintro e v0 ⟨rfl, bv0⟩
  have zv0 := hbd.trans (bv0.mono hbd.size)
  refine hK.out _ _ (seg_keep zv0 ?_)
  clear hK K
  intro q hq
  have m0 := fun z => ((hq z).cell (p := ⟨g, 0, none⟩) hg0).trans c0
  have m1 := fun z => ((hq z).cell (p := ⟨g, 1, none⟩) hg0).trans c1
  have m2 := fun z => ((hq z).cell (p := ⟨g, 2, none⟩) hg0).trans c2
  have m4 := fun z => ((hq z).cell (p := ⟨g, 4, none⟩) hg0).trans c4
  have n0 := fun z => ((hq z).cell (p := ⟨G, 0, none⟩) hG0).trans k0
  have n1 := fun z => ((hq z).cell (p := ⟨G, 1, none⟩) hG0).trans k1
  have n2 := fun z => ((hq z).cell (p := ⟨G, 2, none⟩) hG0).trans k2
  have n4 := fun z => ((hq z).cell (p := ⟨G, 4, none⟩) hG0).trans k4
  simp only [pickI, Option.toList_some, List.cons_append, List.nil_append, List.getElem?_toArray, List.getElem?_cons_succ, List.getElem?_cons_zero]
  repeat (go_big_quiet_step (fail))
  refine wpQuiet_nil ?_
  clear m0 m1 m2 m4 n0 n1 n2 n4 hq q
  refine seg_op (by simp only [List.getElem?_toArray, List.getElem?_cons_succ, List.getElem?_cons_zero]; rfl) fun K hK => ?_
  go_simp
  refine (HSE.out _ zv0).mono ?_
  rintro e v1 ⟨rfl, bv1⟩
  have zv1 := zv0.trans (bv1.mono zv0.size)
  refine hK.out _ _ (seg_keep zv1 ?_)
  clear hK K
  intro q hq
  have m0 := fun z => ((hq z).cell (p := ⟨g, 0, none⟩) hg0).trans c0
  have m1 := fun z => ((hq z).cell (p := ⟨g, 1, none⟩) hg0).trans c1
  have m2 := fun z => ((hq z).cell (p := ⟨g, 2, none⟩) hg0).trans c2
  have m4 := fun z => ((hq z).cell (p := ⟨g, 4, none⟩) hg0).trans c4
  have n0 := fun z => ((hq z).cell (p := ⟨G, 0, none⟩) hG0).trans k0
  have n1 := fun z => ((hq z).cell (p := ⟨G, 1, none⟩) hG0).trans k1
  have n2 := fun z => ((hq z).cell (p := ⟨G, 2, none⟩) hG0).trans k2
  have n4 := fun z => ((hq z).cell (p := ⟨G, 4, none⟩) hG0).trans k4
  simp only [pickI, Option.toList_some, List.cons_append, List.nil_append, List.getElem?_toArray, List.getElem?_cons_succ, List.getElem?_cons_zero]
  repeat (go_big_quiet_step (fail))
  refine wpQuiet_nil ?_
  clear m0 m1 m2 m4 n0 n1 n2 n4 hq q
  go_wp2
  go_ret
  exact ⟨rfl, zv1⟩

end Go.Proofs.Ytdmcbojncgdccaa
