/- A device: a crash. A device that is nil, and one that no call made. A device: its fuse; what is flushed. -/
import Derived.Test.YtpalmobmabkadaaGreatDoorDeviZM
namespace Go.Proofs.YtpalmobmabkadaaGreatDoor
set_option maxRecDepth 20000
open Go.RowKit

theorem alloc_chg (w : World) : (Instr.alloc 101 true (.tuple #[])).run Tryz.prog w = .ok (.pointer (some ⟨w.heap.size, 0, none⟩)) (w.alloc (.cells (chg (0, Z)).toArray 101)) := by kernel_rfl
theorem size_chg : (Tryz.prog.info? 101).map (·.size) = some 65 := by kernel_rfl
theorem load_chg {w : World} {b o : Nat} {p : Int × List UInt8} (h : ∀ j u, (chg p)[j]? = some u → w.cell? ⟨b, o + j, none⟩ = some u) (hp : p.2.length = 64) : (Instr.loadAt 101 (.pointer (some ⟨b, o, none⟩))).run Tryz.prog w = .ok (chgv p) w := by
  have hl : (loadCells ⟨b, o, none⟩ (chg p).length).run Tryz.prog w = .ok (chg p).toArray w := run_loadCells_list (P := Tryz.prog) w ⟨b, o, none⟩ (chg p) (fun j u hu => by rw [addOff]; exact h j u hu)
  rw [chg_len p hp] at hl
  have hagg : (isAgg 101).run Tryz.prog w = .ok true w := by unfold isAgg; rw [Sem.run_bind, run_underlying Tryz.underlying101 w]; rfl
  have hsz : (Go.sizeOf 101).run Tryz.prog w = .ok 65 w := by kernel_rfl
  simp only [Instr.loadAt, Instr.sureAddr, Sem.run_bind, Sem.run_pure, Result.andThen_ok, loadVar, hagg, hsz, hl, if_true]
  rfl
theorem store_chg {w : World} {g : Nat} {e : TypeId} {p : Int × List UInt8} {cur : Array Value} (h : w.heap[g]? = some (.cells cur e (0, 0))) (hc : cur.size = 65) (hp : p.2.length = 64) : (Instr.storeAt 101 (.pointer (some ⟨g, 0, none⟩)) (chgv p)).run Tryz.prog w = .ok () (w.setRow g (chg p).toArray) := by
  have hst := run_storeCells_at Tryz.prog g 0 e (chg p) 0 cur w h (by rw [chg_len p hp]; omega) (chg_one p)
  simp only [Nat.add_zero, Nat.zero_add, List.take_zero, List.nil_append] at hst
  rw [List.drop_of_length_le (by rw [chg_len p hp, Array.length_toList]; omega), List.append_nil] at hst
  have hsz : (Go.sizeOf 101).run Tryz.prog w = .ok 65 w := by kernel_rfl
  have e1 : (chgv p).cells.size = 65 := by rw [chgv_cells]; simp [chg_len p hp]
  have e2 : (chgv p).cells.toList = chg p := by rw [chgv_cells]
  simp [Instr.storeAt, Instr.sureAddr, storeVar, hsz, e1, e2, hst, Result.andThen]
section
variable {w : World} {ops : Array Oper} {rest : List Oper} {o : Oper} {a : Act} {Q : Exit → Act → World → Prop}
theorem wpL_newchg (hgd : o.guard = none) (ho : o.op = .alloc 101)
    (h : ∀ (W : World) (b : Nat), Hid (b = w.heap.size) → W.heap[b]? = some (.cells (chg (0, Z)).toArray 101 (0, 0)) → w.grownBy W none → Hid (W.heap.size = b + 1) → wpList Tryz.prog ops Q rest (a.put o.dst (.pointer (some ⟨b, 0, none⟩))) W) : wpList Tryz.prog ops Q (o :: rest) a w := by
  refine wpList_plain hgd fun K hK => ?_
  have hr := alloc_chg w
  unfold Oper.wp
  simp [execOp, ho, hr, Result.andThen]
  exact hK _ _ (h _ _ (Lib.hid rfl) (heap_alloc_new w _) (World.grownBy_alloc _ _ _) (Lib.hid (by simp)))
theorem wpL_loadchg (hgd : o.guard = none) (x : Operand) (ho : o.op = .load 101 x) {b i : Nat} {p : Int × List UInt8} (hx : a.eval x = .pointer (some ⟨b, i, none⟩)) (hr : ∀ j u, (chg p)[j]? = some u → w.cell? ⟨b, i + j, none⟩ = some u) (hp : p.2.length = 64)
    (h : wpList Tryz.prog ops Q rest (a.put o.dst (chgv p)) w) : wpList Tryz.prog ops Q (o :: rest) a w := by
  refine wpList_plain hgd fun K hK => ?_
  have hrun := load_chg hr hp
  unfold Oper.wp
  simp [execOp, ho, hx, hrun, Result.andThen]
  exact hK _ _ h
theorem wpL_storechg (hgd : o.guard = none) (x y : Operand) (ho : o.op = .store 101 x y) {g : Nat} {e : TypeId} {p : Int × List UInt8} {cur : Array Value} (hx : a.eval x = .pointer (some ⟨g, 0, none⟩)) (hy : a.eval y = chgv p) (hr : w.heap[g]? = some (.cells cur e (0, 0))) (hc : cur.size = 65) (hp : p.2.length = 64)
    (h : ∀ W : World, W.heap[g]? = some (.cells (chg p).toArray e (0, 0)) → w.grownBy W (some g) → Hid (W.heap.size = w.heap.size) → wpList Tryz.prog ops Q rest (a.put o.dst undef) W) : wpList Tryz.prog ops Q (o :: rest) a w := by
  refine wpList_plain hgd fun K hK => ?_
  have hrun := store_chg hr hc hp
  unfold Oper.wp
  simp [execOp, ho, hx, hy, hrun, Result.andThen]
  exact hK _ _ (h _ (setRow_heap w g cur _ e _ hr) ⟨rfl, rfl, rfl, by simp, fun k _ hk => setRow_other w g k _ (fun e => hk (by rw [e]))⟩ (Lib.hid (by simp)))
end
section
variable {w : World} {o : Oper} {a : Act} {Q : Exit → Act → World → Prop} {K : Act → World → Prop}
theorem wp_newsec (ho : o.op = .alloc 99) (h : ∀ (W : World) (b : Nat), Hid (b = w.heap.size) → W.heap[b]? = some (.cells (u8s Z).toArray 99 (0, 0)) → w.grownBy W none → Hid (W.heap.size = b + 1) → K (a.put o.dst (.pointer (some ⟨b, 0, none⟩))) W) : o.wp Tryz.prog a w K Q :=
  wp_run (by simp only [execOp, ho, Sem.run_bind, alloc_sec w, Result.andThen_ok, Sem.run_pure]) (h _ _ (Lib.hid rfl) (heap_alloc_new w _) (World.grownBy_alloc _ _ _) (Lib.hid (by simp)))
theorem wp_storesec (x y : Operand) (ho : o.op = .store 99 x y) {g : Nat} {e : TypeId} {s : List UInt8} {cur : Array Value} (hx : a.eval x = .pointer (some ⟨g, 0, none⟩)) (hy : a.eval y = secv s) (hr : w.heap[g]? = some (.cells cur e (0, 0))) (hc : cur.size = 64) (hs : s.length = 64)
    (h : ∀ W : World, W.heap[g]? = some (.cells (u8s s).toArray e (0, 0)) → w.grownBy W (some g) → Hid (W.heap.size = w.heap.size) → K (a.put o.dst undef) W) : o.wp Tryz.prog a w K Q :=
  wp_store1 _ x y ho hx hy (store_sec hr hc hs) (h _ (setRow_heap w g cur _ e _ hr) ⟨rfl, rfl, rfl, by simp, fun k _ hk => setRow_other w g k _ (fun e => hk (by rw [e]))⟩ (Lib.hid (by simp)))
theorem wp_cpy (s x : Operand)
    (ho : o.op = .call { callee := .builtin .copy, args := #[s, x], argTypes := #[86, 86] })
    {g n dc m cc B : Nat} {e : TypeId} {cur : Array Value} {A : Option Addr} {l : List UInt8} (hs : a.eval s = .slice (some ⟨g, 0, none⟩) n dc) (hx : a.eval x = .slice A m cc) (hr : w.heap[g]? = some (.cells cur e (0, 0))) (hsrc : Rd w B 1 A m cc (u8s l)) (hn : n ≤ cur.size)
    (h : ∀ W : World, W.heap[g]? = some (.cells (u8s (l.take (min m n)) ++ cur.toList.drop (min m n)).toArray e (0, 0)) → w.grownBy W (some g) → Hid (W.heap.size = w.heap.size) → K (a.put o.dst (goInt ((min m n : Nat) : Int))) W) :
    o.wp Tryz.prog a w K Q := by
  have hrun := run_cpy hr hsrc hn o.type (dc := dc)
  unfold Oper.wp execOp
  simp only [ho, resolve, invoke, builtin, Sem.run_bind, Sem.run_pure, Result.andThen_ok, List.map_toArray, List.map_cons, List.map_nil, hs, hx, hrun]
  exact h _ (setRow_heap w g cur _ e _ hr) ⟨rfl, rfl, rfl, by simp, fun k _ hk => setRow_other w g k _ (fun e => hk (by rw [e]))⟩ (Lib.hid (by simp))
end
theorem Rd.stay' {w w' : World} {B sz n c : Nat} {A : Option Addr} {xs : List Value} (h : Rd w B sz A n c xs) (k : ∀ b o, A = some ⟨b, o, none⟩ → b < B → w'.heap[b]? = w.heap[b]?) : Rd w' B sz A n c xs := by
  obtain ⟨h1, h2, h3, h4⟩ := h
  refine ⟨h1, h2, h3, fun hn => ?_⟩
  obtain ⟨b, o, hA, hb, hc⟩ := h4 hn
  exact ⟨b, o, hA, hb, fun j u hu => (World.cell?_of_block (a := ⟨b, o + j, none⟩) (k b o hA hb)).trans (hc j u hu)⟩
theorem Rd.stayn' {w w' : World} {B sz n c : Nat} {A : Option Addr} {xs : List Value} (h : Rd w B sz A n c xs) (k : 0 < n → ∀ b o, A = some ⟨b, o, none⟩ → b < B → w'.heap[b]? = w.heap[b]?) : Rd w' B sz A n c xs := by
  obtain ⟨h1, h2, h3, h4⟩ := h
  refine ⟨h1, h2, h3, fun hn => ?_⟩
  obtain ⟨b, o, hA, hb, hc⟩ := h4 hn
  exact ⟨b, o, hA, hb, fun j u hu => (World.cell?_of_block (a := ⟨b, o + j, none⟩) (k hn b o hA hb)).trans (hc j u hu)⟩
theorem chgs_len (ws : List (Int × List UInt8)) (h : ∀ p ∈ ws, p.2.length = 64) : (chgs ws).length = ws.length * 65 := by
  induction ws with
  | nil => rfl
  | cons p ws ih =>
    have h1 := chg_len p (h p List.mem_cons_self)
    have h2 := ih (fun q hq => h q (List.mem_cons_of_mem _ hq))
    simp only [chgs, List.flatMap_cons, List.length_append, List.length_cons] at h2 ⊢
    rw [h1, h2]
    omega
theorem chgs_get (ws : List (Int × List UInt8)) (h : ∀ p ∈ ws, p.2.length = 64) (i : Nat) (p : Int × List UInt8) (hi : ws[i]? = some p) (j : Nat) (u : Value) (hj : (chg p)[j]? = some u) : (chgs ws)[i * 65 + j]? = some u := by
  induction ws generalizing i with
  | nil => cases hi
  | cons q ws ih =>
    have hq := chg_len q (h q List.mem_cons_self)
    have e : chgs (q :: ws) = chg q ++ chgs ws := rfl
    rw [e]
    cases i with
    | zero =>
      simp only [List.getElem?_cons_zero, Option.some.injEq] at hi
      subst hi
      rw [Nat.zero_mul, Nat.zero_add, List.getElem?_append_left (List.getElem?_eq_some_iff.1 hj).1]
      exact hj
    | succ i =>
      rw [List.getElem?_append_right (by omega), hq, show (i + 1) * 65 + j - 65 = i * 65 + j from by omega]
      exact ih (fun q hq => h q (List.mem_cons_of_mem _ hq)) i (by simpa using hi)

/-- So many changes are kept, as far as they are. -/
def Dv.crash1 (d : Dv) (ks : List Int) : Nat → Dv
  | 0 => d
  | i + 1 => match d.ws[i]? with
    | none => d.crash1 ks i
    | some p => (d.crash1 ks i).keep p.1 (p.2.take (kept1 ks i) ++ ((d.crash1 ks i).S p.1).drop (kept1 ks i))
def Dv.crash (d : Dv) (ks : List Int) : Dv := { d.crash1 ks d.ws.length with ws := [], down := false, fuse := 0 }
theorem Dv.crash1_ws (d : Dv) (ks : List Int) (i : Nat) : (d.crash1 ks i).ws = d.ws ∧ (d.crash1 ks i).n = d.n ∧ (d.crash1 ks i).done = d.done := by
  induction i with
  | zero => exact ⟨rfl, rfl, rfl⟩
  | succ i ih =>
    rw [Dv.crash1]
    split
    · exact ih
    · exact ih
theorem kept1_le (ks : List Int) (i : Nat) : kept1 ks i ≤ 64 := by unfold kept1; split <;> omega

theorem crash_nil (A : Option Addr) (n c : Nat) (w : World) : Calls Tryz.prog 16 #[.pointer none, .slice A n c] w fun e w' => e = .returned (.tuple #[]) ∧ w = w' := by
  go_enter Tryz.func16, Tryz.ntmps16
  go_wp2
  go_returns
  exact ⟨rfl, rfl⟩

set_option maxHeartbeats 4000000 in
set_option maxRecDepth 8000 in
theorem crash_any {w : World} {B g bs bl k : Nat} {v : Value} {d : Dv} (h : Dev w B g bs bl v k d) (hk : k ≤ 800000000) (hws : d.ws.length ≤ 900000) (A : Option Addr) (n c : Nat) (ks : List Int) (hl : Rd w w.heap.size 1 A n c (ks.map (Value.int .i64))) (hn : n ≤ 1000000) (hsep : 0 < n → ∀ b o, A = some ⟨b, o, none⟩ → ¬ Foot g bs bl v b) :
    Calls Tryz.prog 16 #[.pointer (some ⟨g, 0, none⟩), .slice A n c] w fun e w' => e = .returned (.tuple #[]) ∧ ∃ bl' k', Dev w' B g bs bl' (.slice none 0 0) k' (d.crash ks) ∧ k' ≤ k + d.ws.length ∧ Keeps (Foot g bs bl v) w w' ∧ w.heap.size ≤ bl' := by
  have hf : ∀ i, Foot g bs bl v i → i < w.heap.size := fun i hi => (h.foot_lt hi).2
  obtain ⟨q0, nn, cap, hv0, hcell⟩ : ∃ q0 nn cap, v = .slice q0 d.ws.length cap ∧ (∀ i p, d.ws[i]? = some p → q0 = some ⟨nn, 0, none⟩) := by
    obtain ⟨_, h2⟩ := h.waits
    rcases h2 with ⟨e, e2⟩ | ⟨q, cap, cur, e, _⟩
    · exact ⟨none, 0, 0, by rw [e, e2], fun i p hi => by have := (List.getElem?_eq_some_iff.1 hi).1; omega⟩
    · exact ⟨_, q, cap, e, fun _ _ _ => rfl⟩
  have hrd : ∀ W, Dev W B g bs bl v (k + 0) d → True := fun _ _ => trivial
  clear hrd
  subst hv0
  have c2 := h.c2
  have HH := Lib.hid h
  have HL := Lib.hid hl
  have HC := Lib.hid hcell
  have HWS := Lib.hid hws
  have HK := Lib.hid hk
  have hwl : (d.ws.length : Int) ≤ 900000 := by omega
  have HSEP := Lib.hid hsep
  clear hl hcell hws hk h hsep
  go_enter Tryz.func16, Tryz.ntmps16
  go_wp2
  go_loopw [14] (fun ir wr => ∃ i : Nat, i ≤ d.ws.length ∧ ir = .int .i64 (i : Int) ∧ Dev wr B g bs bl (.slice q0 d.ws.length cap) (k + i) (d.crash1 ks i) ∧ Keeps (fun j => j = bs) w wr) (fun ir _ => d.ws.length - (intOf ir).toNat)
  case atStart => exact ⟨0, Nat.zero_le _, rfl, HH.out, Keeps.refl _ _⟩
  case round =>
    obtain ⟨i, hi, rfl, hDi, hKi⟩ := hrel
    obtain ⟨wsE, nE, dE⟩ := Dv.crash1_ws d ks i
    by_cases hlt : i < d.ws.length
    · obtain ⟨p, hp⟩ : ∃ p, d.ws[i]? = some p := ⟨_, List.getElem?_eq_getElem hlt⟩
      obtain rfl := HC.out i p hp
      obtain ⟨hp64, hp0, hpn⟩ := HH.out.ok.ws p (List.mem_of_getElem? hp)
      have hcells : ∀ j u, (chg p)[j]? = some u → wr.cell? ⟨nn, i * 65 + j, none⟩ = some u := fun j u hu => by
        have h1 := hDi.waits.cells (g := nn) rfl (i * 65 + j) u (by rw [wsE]; exact chgs_get d.ws (fun q hq => (HH.out.ok.ws q hq).1) i p hp j u hu)
        rw [addOff, Nat.zero_add] at h1
        exact h1
      have HP64 := Lib.hid hp64
      have HCE := Lib.hid hcells
      have HP := Lib.hid hp
      have HX := Lib.hid (And.intro hp0 hpn)
      have HWE := Lib.hid wsE
      have HDi := Lib.hid hDi
      have HKi := Lib.hid hKi
      have hidx : (i : Int) ≤ 900000 := by omega
      clear hp64 hcells hp hp0 hpn wsE nE dE hDi hKi
      go_wp2_with (first
        | (refine wpL_loadchg rfl (.tmp 17) rfl rfl HCE.out HP64.out ?_)
        | (refine wpL_newchg rfl rfl ?_; intro W1 b1 hb1 hr1 hg1 hz1)
        | (refine wpL_storechg rfl (.tmp 5) (.tmp 18) rfl rfl rfl hr1 rfl HP64.out ?_; intro W2 hr2 hg2 hz2)
        | fail)
      obtain ⟨di, hdi⟩ : ∃ di, di = d.crash1 ks i := ⟨_, rfl⟩
      have hDi := HDi.out
      rw [← hdi] at hDi
      have hb1v := hb1.out
      have hFw : ∀ j, Foot g bs bl (.slice (some ⟨nn, 0, none⟩) d.ws.length cap) j → j < wr.heap.size := fun j hj => (hDi.foot_lt hj).2
      have hD2 : Dev W2 B g bs bl (.slice (some ⟨nn, 0, none⟩) d.ws.length cap) (k + i) di := (hDi.new hg1).keeps (Keeps.one hg2) (fun j hj hf' => by have := hFw j hf'; omega)
      have hK02 : Keeps (fun j => j = bs) w W2 := (HKi.out.grown hg1 (fun q e => by cases e)).grown hg2 (fun q e => .inr (by have := Option.some.inj e; have := HKi.out.size; omega))
      have hx1 : W2.cell? ⟨b1, 0, none⟩ = some (.int .i64 p.1) := by rw [cell_of_row W2 b1 0 _ _ _ hr2]; rfl
      have hrd1 : Rd W2 W2.heap.size 1 (some ⟨b1, 1, none⟩) 64 64 (u8s p.2) := ⟨Nat.le_refl _, by unfold maxLen; omega, by rw [u8s_len, HP64.out], fun _ => ⟨b1, 1, rfl, (Array.getElem?_eq_some_iff.1 hr2).1, fun j u hu => by
        rw [cell_of_row W2 b1 (1 + j) _ _ _ hr2, Nat.add_comm]
        simpa [chg] using hu⟩⟩
      have hkey : Key p.1 := by have := HX.out; have := HH.out.ok.n; unfold Key; omega
      have hlook := fun (W : World) (hb : Below W2.heap.size W2 W) => ((hD2.below hb).safe.look Tryz.underlying3 Tryz.underlying90 (zero_sec W) Z_len p.1 hkey).1
      simp only [nz_get] at hlook
      obtain ⟨s, hs⟩ : ∃ s, s = di.S p.1 := ⟨_, rfl⟩
      rw [← hs] at hlook
      have hs64 : s.length = 64 := by rw [hs]; exact hDi.ok.S _
      have HLK := Lib.hid hlook
      have HS := Lib.hid hs
      have HS64 := Lib.hid hs64
      have c12 := hD2.c1
      have hg2l := hD2.lt
      have hb1l : b1 < W2.heap.size := (Array.getElem?_eq_some_iff.1 hr2).1
      have HKEY := Lib.hid hkey
      have HDI := Lib.hid hdi
      clear hlook hs hs64 hkey hb1v hdi hDi
      refine wp_grow [([0, 1, 2, 3, 4, 5, 6], 7), ([], 8)] [] (by kernel_rfl) (by kernel_rfl) (fun d _ _ _ _ h => by cases d <;> exact h) fun wd hbd => ?_
      intro f hf
      have F2 := fun z => ((hf z).cell (p := ⟨g, 1, none⟩) hg2l).trans c12
      have F3 := fun z => ((hf z).cell (p := ⟨b1, 0, none⟩) hb1l).trans hx1
      have HF4 := Lib.hid (show ∀ x, (∃ z, x = f z) → (Instr.lookup 90 (.map (some bs)) (.int .i64 p.1) false).run Tryz.prog x = .ok (secv s) x from by
        rintro x ⟨z, rfl⟩
        exact HLK.out _ (hf z))
      simp only [pickI, Option.toList_some, List.cons_append, List.nil_append, List.getElem?_toArray, List.getElem?_cons_succ, List.getElem?_cons_zero]
      iterate 6 go_big_quiet_step (fail)
      refine wpQ_lookup rfl _ (.tmp 22) (.tmp 24) false rfl rfl rfl HF4.out ?_
      go_frame
      refine wpQuiet_nil ?_
      clear HF4 F2 F3 hf f
      refine seg_op (by simp only [List.getElem?_toArray, List.getElem?_cons_succ, List.getElem?_cons_zero]; rfl) fun K hK => ?_
      refine ite_ok rfl ?_
      refine wp_newsec rfl ?_
      intro W3 b6 hb6 hr3 hg3 hz3
      have hb23 : Below W2.heap.size W2 W3 := hbd.grown hg3 hbd.size (fun q e => by cases e)
      refine hK.out _ _ (seg_keep hb23 ?_)
      clear hK K
      go_frame
      intro f hf
      refine wpQuiet_nil ?_
      clear hf f
      refine seg_op (by simp only [List.getElem?_toArray, List.getElem?_cons_succ, List.getElem?_cons_zero]; rfl) fun K hK => ?_
      refine ite_ok rfl ?_
      refine wp_storesec (.tmp 6) (.tmp 25) rfl rfl rfl hr3 rfl HS64.out ?_
      intro W4 hr4 hg4 hz4
      have hb6v : W2.heap.size ≤ b6 := by have := hb6.out; have := hbd.size; omega
      have hb24 : Below W2.heap.size W2 W4 := hb23.grown hg4 hb23.size (fun q e => by have := Option.some.inj e; omega)
      refine hK.out _ _ (seg_keep hb24 ?_)
      clear hK K
      go_frame
      intro f hf
      refine wpQuiet_nil ?_
      clear hf f
      have hD4 := hD2.below hb24
      have hK04 : Keeps (fun j => j = bs) w W4 := hK02.trans (Keeps.of_below (F := fun _ => False) hb24) (fun i hi => hi.elim)
      have hx4 := (hb24.cell (p := ⟨b1, 0, none⟩) hb1l).trans hx1
      have hrd4 := (hrd1.below hb24).more hb24.size
      have hl4 : Rd W4 w.heap.size 1 A n c (ks.map (Value.int .i64)) := HL.out.stayn' (fun h0 b o e hb => hK04.block b hb (fun e2 => HSEP.out h0 b o e (.inr (.inl e2))))
      have hkept := fun (W : World) (hr : Rd W W.heap.size 1 A n c (ks.map (Value.int .i64))) => kept_any A n c i ks W hr (by omega) hn
      have hkl := kept1_le ks i
      have hbb : b1 ≠ b6 := by omega
      obtain ⟨κ, hκ⟩ : ∃ κ, κ = kept1 ks i := ⟨_, rfl⟩
      rw [← hκ] at hkl
      simp only [← hκ] at hkept
      have HKPT := Lib.hid hkept
      have HKAP := Lib.hid hκ
      have hkli : (κ : Int) ≤ 64 := by omega
      clear hkept hκ hx1 hrd1 c12
      go_wp2
      refine wp_keeps (fun j => j = b6) [([0, 1, 4, 5], 2), ([3], 6)] [] (by kernel_rfl) (by kernel_rfl) (fun d _ _ _ _ h => by cases d <;> exact h) fun we hbe => ?_
      intro f hf
      simp only [pickI, Option.toList_some, List.cons_append, List.nil_append, List.getElem?_toArray, List.getElem?_cons_succ, List.getElem?_cons_zero]
      iterate 4 go_big_quiet_step (fail)
      refine wpQuiet_nil ?_
      clear hf f
      have hKe : Keeps (fun j => j = b6) W4 we := Keeps.of_below hbe
      refine seg_op (by simp only [List.getElem?_toArray, List.getElem?_cons_succ, List.getElem?_cons_zero]; rfl) fun K hK => ?_
      go_simp
      refine (HKPT.out _ ((hl4.below (hbe.mono (Nat.le_trans hK04.size (Nat.le_refl _)))).more (Nat.le_trans hK04.size hbe.size))).mono ?_
      rintro e w5 ⟨rfl, rfl⟩
      refine hK.out _ _ (seg_keep hKe ?_)
      clear hK K
      try go_frame
      intro f hf
      simp only [pickI, Option.toList_some, List.cons_append, List.nil_append, List.getElem?_toArray, List.getElem?_cons_succ, List.getElem?_cons_zero]
      iterate 1 go_big_quiet_step (fail)
      refine wpQuiet_nil ?_
      clear hf f
      refine seg_op (by simp only [List.getElem?_toArray, List.getElem?_cons_succ, List.getElem?_cons_zero]; rfl) fun K hK => ?_
      refine ite_ok rfl ?_
      refine wp_cpy (.tmp 29) (.tmp 31) rfl rfl rfl (row_below hr4 hbe) (hrd4.below hbe) (by simp [u8s_len, HS64.out]; exact hkl) ?_
      intro W5 hr5 hg5 hz5
      obtain ⟨T, hT⟩ : ∃ T, T = p.2.take κ ++ s.drop κ := ⟨_, rfl⟩
      have hT5 : W5.heap[b6]? = some (.cells (u8s T).toArray 99 (0, 0)) := by
        rw [hr5]
        have e : min 64 κ = κ := by omega
        rw [e, hT, u8s_app, u8s_drop]
      have hT64 : T.length = 64 := by rw [hT, List.length_append, List.length_take, List.length_drop, HP64.out, HS64.out]; omega
      refine hK.out _ _ (seg_keep (hKe.grown hg5 (fun q e => .inl (Option.some.inj e).symm)) ?_)
      clear hK K
      go_frame
      intro f hf
      refine wpQuiet_nil ?_
      clear hf f
      have hD4e := hD4.below hbe
      have hft := fun j hj => (hD2.foot_lt (i := j) hj).2
      have hD5 : Dev W5 B g bs bl (.slice (some ⟨nn, 0, none⟩) d.ws.length cap) (k + i) di := hD4e.keeps (Keeps.one hg5) (fun j hj hfj => by have := hft j hfj; omega)
      have hK05 : Keeps (fun j => j = bs) w W5 := (hK04.trans (Keeps.of_below (F := fun _ => False) hbe) (fun i hi => hi.elim)).grown hg5 (fun q e => .inr (by have := Option.some.inj e; have := hK02.size; omega))
      have hx5 : W5.cell? ⟨b1, 0, none⟩ = some (.int .i64 p.1) := (World.cell?_of_block (a := ⟨b1, 0, none⟩) (hg5.block b1 (by have := hb24.size; have := hbe.size; show b1 < we.heap.size; omega) (fun e => hbb (Option.some.inj e)))).trans ((hbe.cell (p := ⟨b1, 0, none⟩) (by have := hb24.size; show b1 < W4.heap.size; omega)).trans hx4)
      have hkp := keep_any hD5 p.1 HKEY.out T hT64 (by have := HK.out; omega)
      have HKP := Lib.hid hkp
      have HT := Lib.hid hT
      have HT64 := Lib.hid hT64
      clear hkp hT hT64 hr5 hx4
      go_wp2_with (first
        | (refine wpL_load rfl (.tmp 6) rfl rfl hT5 HT64.out ?_)
        | (go_at_call 45; refine HKP.out.mono ?_; rintro e w7 ⟨rfl, hD7, hg7⟩)
        | fail)
      have hnext : d.crash1 ks (i + 1) = di.keep p.1 T := by
        rw [Dv.crash1, HP.out]
        simp only
        rw [HT.out, HS.out, HKAP.out, HDI.out]
      have HNX := Lib.hid hnext
      clear hnext
      go_roundw
      case rel => exact ⟨i + 1, by omega, by go_num, by rw [HNX.out]; exact hD7, hK05.grown hg7 (fun q e => .inl (Option.some.inj e).symm)⟩
      case measure => simp [intOf]; omega
    · obtain rfl : i = d.ws.length := by omega
      have hst := settle_any hDi
      have HST := Lib.hid hst
      have HKi := Lib.hid hKi
      have HDi := Lib.hid hDi
      clear hst hKi hDi wsE nE dE
      go_wp2_with (first
        | (go_at_call 46; refine HST.out.mono ?_; rintro e w3 ⟨rfl, hD3, hg3⟩
           have c4 := hD3.c4
           have c5 := hD3.c5
           have f4 := hD3.free 4
           have f5 := hD3.free 5)
        | fail)
      have r4 := set_row hD3.row 4 (.bool false)
      have r5 := set_row r4 5 (.int .u64 0)
      have hg5 : w3.grownBy ((w3.setCell ⟨g, 4, none⟩ (.bool false)).setCell ⟨g, 5, none⟩ (.int .u64 0)) (some g) := grownBy_tr (setCell_grows _ g 4 _) (setCell_grows _ g 5 _)
      have hfin : Dev ((w3.setCell ⟨g, 4, none⟩ (.bool false)).setCell ⟨g, 5, none⟩ (.int .u64 0)) B g bs wr.heap.size (.slice none 0 0) (k + d.ws.length) (d.crash ks) := by
        refine hD3.set r5 hg5 rfl rfl ⟨hD3.ok.n, hD3.ok.S, (fun p hp => by cases hp), (show (0 : Nat) < 18446744073709551616 by omega)⟩
      have hkk : Keeps (Foot g bs bl (.slice q0 d.ws.length cap)) w w3 := (HKi.out.wide (F' := Foot g bs bl (.slice q0 d.ws.length cap)) (fun j hj => .inr (.inl hj))).grown hg3 (fun q e => .inl (.inl (Option.some.inj e).symm))
      go_returns
      exact ⟨rfl, _, _, hfin, Nat.le_refl _, hkk.grown hg5 (fun q e => .inl (.inl (Option.some.inj e).symm)), HKi.out.size⟩

end Go.Proofs.YtpalmobmabkadaaGreatDoor

namespace Go.Proofs.YtpalmobmabkadaaGreatDoor
set_option maxRecDepth 20000
open Go.RowKit
attribute [local go_sem] Oper.semAt_some

theorem fuse_nil (n : Int) (w : World) : Calls Tryz.prog 15 #[.pointer none, .int .i64 n] w fun e w' => e = .returned (.tuple #[]) ∧ w = w' := by
  go_enter Tryz.func15, Tryz.ntmps15
  go_wp2
  go_returns
  exact ⟨rfl, rfl⟩
theorem flush_nil (w : World) : Calls Tryz.prog 59 #[.pointer none] w fun e w' => e = .returned (.int .i64 1) ∧ w = w' := by
  go_enter Tryz.func59, Tryz.ntmps59
  go_wp2_with (go_at_call 95; refine (power_nil _).mono ?_; rintro e w1 ⟨rfl, rfl⟩)
  go_ret
  exact ⟨rfl, rfl⟩
/-- The cells of a device that no call made; of one whose power went. -/
def bareRow : Array Value := #[.int .i64 0, .map none, .slice none 0 0, .map none, .bool false, .int .u64 0, .int .i64 0]
def bareRow2 (b : Nat) : Array Value := #[.int .i64 0, .map none, .slice none 0 0, .map (some b), .bool false, .int .u64 0, .int .i64 0]
set_option maxRecDepth 8000 in
theorem settle_bare (w : World) (g : Nat) (h : w.heap[g]? = some (.cells bareRow 93 (0, 0))) :
    Calls Tryz.prog 46 #[.pointer (some ⟨g, 0, none⟩)] w fun e w' => e = .returned (.tuple #[]) ∧ w'.heap[g]? = some (.cells (bareRow2 w.heap.size) 93 (0, 0)) ∧ w.grownBy w' (some g) := by
  have hlt : g < w.heap.size := (Array.getElem?_eq_some_iff.1 h).1
  obtain ⟨W2, hW2⟩ : ∃ W2, W2 = (w.setCell ⟨g, 2, none⟩ (.slice none 0 0)).setCell ⟨g, 3, none⟩ (.map (some w.heap.size)) := ⟨_, rfl⟩
  have hg2 : w.grownBy W2 (some g) := by rw [hW2]; exact grownBy_tr (setCell_grows _ g 2 _) (setCell_grows _ g 3 _)
  have r3 := set_row (set_row h 2 (.slice none 0 0)) 3 (.map (some w.heap.size))
  rw [← hW2] at r3
  have hg0 := World.grownBy_alloc W2 (.map #[] 0) none
  have hfin : (W2.alloc (.map #[] 0)).heap[g]? = some (.cells (bareRow2 w.heap.size) 93 (0, 0)) := by rw [row_far r3 hg0 (fun e => by cases e)]; rfl
  have hgr : w.grownBy (W2.alloc (.map #[] 0)) (some g) := grownBy_tr hg2 ⟨hg0.os, hg0.tape, hg0.output, hg0.size, fun i hi _ => hg0.block i hi (fun e => by cases e)⟩
  have c2 : w.cell? ⟨g, 2, none⟩ = some (.slice none 0 0) := cell_of_row w g 2 _ _ _ h
  have f2 := frozen_of_row w g 2 _ _ h
  have c3 : w.cell? ⟨g, 3, none⟩ = some (.map none) := cell_of_row w g 3 _ _ _ h
  have f3 := frozen_of_row w g 3 _ _ h
  have HF := Lib.hid hfin
  have HG := Lib.hid hgr
  have hmm := @run_makeMap Tryz.prog
  have HW := Lib.hid hW2
  clear hfin hgr r3 hg0 hg2 hW2 h
  go_enter Tryz.func46, Tryz.ntmps46
  go_wp2
  rw [← HW.out]
  go_returns
  exact ⟨rfl, HF.out, HG.out⟩
set_option maxRecDepth 8000 in
theorem crash_bare (w : World) (g : Nat) (h : w.heap[g]? = some (.cells bareRow 93 (0, 0))) :
    Calls Tryz.prog 16 #[.pointer (some ⟨g, 0, none⟩), .slice none 0 0] w fun e w' => e = .returned (.tuple #[]) ∧ w'.heap[g]? = some (.cells (bareRow2 w.heap.size) 93 (0, 0)) ∧ w.grownBy w' (some g) := by
  have c2 : w.cell? ⟨g, 2, none⟩ = some (.slice none 0 0) := cell_of_row w g 2 _ _ _ h
  have HS := Lib.hid (settle_bare w g h)
  clear h
  go_enter Tryz.func16, Tryz.ntmps16
  go_wp2
  go_loopw [14] (fun ir wr => ir = .int .i64 0 ∧ wr = w) (fun ir _ => 1)
  case atStart => exact ⟨rfl, rfl⟩
  case round =>
    obtain ⟨rfl, rfl⟩ := hrel
    go_wp2_with (first
      | (go_at_call 46; refine HS.out.mono ?_; rintro e w3 ⟨rfl, hr3, hg3⟩
         have c4 : w3.cell? ⟨g, 4, none⟩ = some (.bool false) := cell_of_row w3 g 4 _ _ _ hr3
         have c5 : w3.cell? ⟨g, 5, none⟩ = some (.int .u64 0) := cell_of_row w3 g 5 _ _ _ hr3
         have f4 := frozen_of_row w3 g 4 _ _ hr3
         have f5 := frozen_of_row w3 g 5 _ _ hr3)
      | fail)
    have r5 := set_row (set_row hr3 4 (.bool false)) 5 (.int .u64 0)
    have hg5 : w3.grownBy ((w3.setCell ⟨g, 4, none⟩ (.bool false)).setCell ⟨g, 5, none⟩ (.int .u64 0)) (some g) := grownBy_tr (setCell_grows _ g 4 _) (setCell_grows _ g 5 _)
    go_returns
    exact ⟨rfl, r5, grownBy_tr hg3 hg5⟩

set_option maxHeartbeats 2000000 in
set_option maxRecDepth 8000 in
theorem write_out (g N : Nat) (x : Int) (A : Option Addr) (n c : Nat) (w : World) (c0 : w.cell? ⟨g, 0, none⟩ = some (.int .i64 (N : Int))) (c4 : w.cell? ⟨g, 4, none⟩ = some (.bool false)) (hN : N ≤ 65536) (hn : n ≤ 1000000) (hout : withinB N x (((n : Int) + 63) / 64) = false) :
    Calls Tryz.prog 92 #[.pointer (some ⟨g, 0, none⟩), .int .i64 x, .slice A n c] w fun e w' => e = .returned (.int .i64 30) ∧ Below w.heap.size w w' := by
  have hgl := block_lt_of_cell c4
  have hgl : g < w.heap.size := hgl
  have hW := fun (W : World) (c0 : W.cell? ⟨g, 0, none⟩ = some (.int .i64 (N : Int))) => within_at g N x (((n : Int) + 63) / 64) W c0 hN (by omega)
  rw [hout] at hW
  have HW := Lib.hid hW
  have HN := Lib.hid (fun W => need_any (n : Int) W (by omega) (by omega))
  obtain ⟨W0, hW0, hz0, hr0, hr1, hr2, hb0⟩ := boxes3 w #[.pointer (some ⟨g, 0, none⟩)] #[.int .i64 x] #[.int .i64 0] 32 3 29
  have d4 : W0.cell? ⟨g, 4, none⟩ = some (.bool false) := (hb0.cell (p := ⟨g, 4, none⟩) hgl).trans c4
  have d0 : W0.cell? ⟨g, 0, none⟩ = some (.int .i64 (N : Int)) := (hb0.cell (p := ⟨g, 0, none⟩) hgl).trans c0
  have e0 : W0.cell? ⟨w.heap.size, 0, none⟩ = some (.pointer (some ⟨g, 0, none⟩)) := cell_of_row W0 _ 0 _ _ _ hr0
  have e1 : W0.cell? ⟨w.heap.size + 1, 0, none⟩ = some (.int .i64 x) := cell_of_row W0 _ 0 _ _ _ hr1
  have e2 : W0.cell? ⟨w.heap.size + 1 + 1, 0, none⟩ = some (.int .i64 0) := cell_of_row W0 _ 0 _ _ _ hr2
  have f2 : W0.frozen? ⟨w.heap.size + 1 + 1, 0, none⟩ = false := frozen_of_row W0 _ 0 _ _ hr2
  have HW0 := Lib.hid hW0
  have hni : (n : Int) ≤ 1000000 := by omega
  clear hW0 hz0 c4 c0 hW hout hN hn
  go_enter Tryz.func92, Tryz.ntmps92
  go_wp2_with (first
    | (rw [← HW0.out]; go_at_call 95; refine (power_ok g _ d4).mono ?_; rintro e w5 ⟨rfl, rfl⟩)
    | fail)
  go_quiet ((first
    | (go_at_call 122; refine (HN.out _).mono ?_; rintro e w1 ⟨rfl, rfl⟩; exact ⟨rfl, _, rfl⟩)
    | (go_at_call 104; refine (HW.out (World.drewN W0 _) (by exact d0)).mono ?_; rintro e w1 ⟨rfl, rfl⟩; exact ⟨rfl, _, rfl⟩)))
  have hq2 : (W0.drewN nq).heap[w.heap.size + 1 + 1]? = some (.cells #[.int .i64 0] 29 (0, 0)) := hr2
  have hbq : Below w.heap.size w (W0.drewN nq) := ⟨hb0.os, hb0.tape, hb0.output, hb0.size, hb0.block⟩
  have e3 : (W0.drewN nq).cell? ⟨w.heap.size + 1 + 1, 0, none⟩ = some (.int .i64 0) := e2
  have f3 : (W0.drewN nq).frozen? ⟨w.heap.size + 1 + 1, 0, none⟩ = false := f2
  clear e2 f2 e0 e1 d0 d4 HW0 hr0 hr1 hr2 hb0
  generalize W0.drewN nq = W1 at *
  go_wp2
  have r2 := set_row hq2 0 (.int .i64 30)
  exact bodyPost_ret (results_cell1 rfl _ rfl (load_errno (cell_of_row _ _ 0 _ _ _ r2))) rfl ⟨rfl, hbq.grown (setCell_grows W1 _ 0 _) hbq.size (fun q e => by have := Option.some.inj e; omega)⟩

end Go.Proofs.YtpalmobmabkadaaGreatDoor

namespace Go.Proofs.YtpalmobmabkadaaGreatDoor
set_option maxRecDepth 20000
open Go.RowKit

section
variable {P : Program} {k : TypeId} {w : World} {b r n cnt : Nat} {f : Says} {left : Int → Bool}
theorem RangeI.le (h : RangeI P k w b r n f left cnt) : cnt ≤ n := by
  obtain ⟨D, lf, ⟨es, _, _, seen, _, _, _, hs, _, _, _, hc, _⟩, _⟩ := h
  rw [← hc]
  exact Nat.le_trans Array.size_filter_le hs
theorem RangeI.ne (h : RangeI P k w b r n f left cnt) : r ≠ b := by obtain ⟨D, lf, h1, _⟩ := h; exact h1.ne
theorem RangeI.lt (h : RangeI P k w b r n f left cnt) : r < w.heap.size := by obtain ⟨D, lf, h1, _⟩ := h; exact h1.lt
end
section
variable {P : Program} {w w' : World} {ops : Array Oper} {rest : List Oper} {o : Oper} {a : Act} {Q : Exit → Act → World → Prop}
theorem wpL_range (hgd : o.guard = none) (ty : TypeId) (x : Operand) (ho : o.op = .range ty x) {p v : Value} (hx : a.eval x = p) (hrun : (Instr.range ty p).run P w = .ok v w') (h : wpList P ops Q rest (a.put o.dst v) w') : wpList P ops Q (o :: rest) a w := by
  refine wpList_plain hgd fun K hK => ?_
  unfold Oper.wp
  simp only [execOp, ho, hx, Sem.run_bind, hrun, Result.andThen_ok, Sem.run_pure]
  exact hK _ _ h
theorem wpL_next (hgd : o.guard = none) (x : Operand) (ho : o.op = .next x false) {k : TypeId} (hk : P.underlying k = some (.int .i64)) {b r n cnt : Nat} {f : Says} {left : Int → Bool} (hx : a.eval x = .pointer (some ⟨r, 0, none⟩)) (hR : RangeI P k w b r n f left cnt)
    (hdone : (∀ x, left x = false) → wpList P ops Q rest (a.put o.dst (.tuple #[.bool false])) w)
    (hmore : ∀ x s w' cnt', Key x → left x = true → f x = some s → s.length = 64 → RangeI P k w' b r n f (fun y => left y && !decide (y = x)) cnt' → cnt' < cnt → w.grownBy w' (some r) → w'.heap.size = w.heap.size → (Instr.entry (.pointer (some ⟨r, 0, none⟩))).run P w' = .ok (.tuple #[.int .i64 x, secv s]) w' → wpList P ops Q rest (a.put o.dst (.tuple #[.bool true, .int .i64 x, secv s])) w') : wpList P ops Q (o :: rest) a w := by
  refine wpList_plain hgd fun K hK => ?_
  unfold Oper.wp
  rcases hR.next hk o.type with ⟨hl, hrun⟩ | ⟨x, s, w', cnt', hkx, hlx, hfx, hs, hrun, hR', hlt, hg, hz, hen⟩
  · simp only [execOp, ho, hx, Sem.run_bind, hrun, Result.andThen_ok, Sem.run_pure]
    exact hK _ _ (hdone hl)
  · simp only [execOp, ho, hx, Sem.run_bind, hrun, Result.andThen_ok, Sem.run_pure]
    exact hK _ _ (hmore x s w' cnt' hkx hlx hfx hs hR' hlt hg hz hen)
end

def Dv.fused (d : Dv) (n : Int) : Dv := { d with fuse := if n < 0 then 0 else n.toNat + 1 }
set_option maxRecDepth 8000 in
theorem fuse_any {w : World} {B g bs bl k : Nat} {v : Value} {d : Dv} (h : Dev w B g bs bl v k d) (n : Int) (hn : Key n) :
    Calls Tryz.prog 15 #[.pointer (some ⟨g, 0, none⟩), .int .i64 n] w fun e w' => e = .returned (.tuple #[]) ∧ Dev w' B g bs bl v k (d.fused n) ∧ w.grownBy w' (some g) := by
  have f5 := h.free 5
  have c5 := h.c5
  have r5 := set_row h.row 5 (.int .u64 0)
  by_cases h0 : n < 0
  · have hfin : Dev (w.setCell ⟨g, 5, none⟩ (.int .u64 0)) B g bs bl v k (d.fused n) := h.set (by rw [r5]; unfold devRow Dv.fused; simp [h0]) (setCell_grows w g 5 _) rfl rfl ⟨h.ok.n, h.ok.S, h.ok.ws, by show (if n < 0 then 0 else n.toNat + 1) < _; rw [if_pos h0]; omega⟩
    have HF := Lib.hid hfin
    have HG := Lib.hid (setCell_grows w g 5 (.int .u64 0))
    have d1 : decide (0 ≤ n) = false := by simp; omega
    clear hfin r5 h hn
    go_enter Tryz.func15, Tryz.ntmps15
    go_wp2
    go_returns
    exact ⟨rfl, HF.out, HG.out⟩
  · have hn' := hn
    unfold Key at hn'
    have w1 : IntKind.u64.wrap n = n := by rw [IntKind.wrap_u64]; omega
    have w2 : IntKind.u64.wrap (n + 1) = n + 1 := by rw [IntKind.wrap_u64]; omega
    have r55 := set_row r5 5 (.int .u64 (n + 1))
    have hfin : Dev ((w.setCell ⟨g, 5, none⟩ (.int .u64 0)).setCell ⟨g, 5, none⟩ (.int .u64 (n + 1))) B g bs bl v k (d.fused n) := h.set (by
      rw [r55]
      unfold devRow Dv.fused
      have : ((n.toNat + 1 : Nat) : Int) = n + 1 := by omega
      simp [h0, this]) (grownBy_tr (setCell_grows w g 5 _) (setCell_grows _ g 5 _)) rfl rfl ⟨h.ok.n, h.ok.S, h.ok.ws, by show (if n < 0 then 0 else n.toNat + 1) < _; rw [if_neg h0]; omega⟩
    have HF := Lib.hid hfin
    have HG := Lib.hid (grownBy_tr (setCell_grows w g 5 (.int .u64 0)) (setCell_grows _ g 5 (.int .u64 (n + 1))))
    have d1 : decide (0 ≤ n) = true := by simp; omega
    have d2 : 0 ≤ n := by omega
    clear hfin r5 r55 h hn hn'
    go_enter Tryz.func15, Tryz.ntmps15
    go_wp2
    go_returns
    exact ⟨rfl, HF.out, HG.out⟩

/-- What is safe when those of 'left' are still to come. -/
def Dv.mix (d : Dv) (left : Int → Bool) : Dv := { d with S := fun y => if left y = true then d.S y else d.seen y }
def Dv.flushed (d : Dv) : Dv := { d with S := d.seen, ws := [] }
def Dv.flush (d : Dv) : Dv × Int := if d.down = true then (d, 50) else if d.step.down = true then (d.step, 50) else (d.step.flushed, 0)
theorem Dv.mix_start (d : Dv) : d.mix (fun x => (lastOf d.ws x).isSome) = d := by
  unfold Dv.mix Dv.seen
  congr
  funext y
  show (if (lastOf d.ws y).isSome = true then d.S y else (lastOf d.ws y).getD (d.S y)) = d.S y
  cases h : lastOf d.ws y with
  | none => rfl
  | some s => rfl
theorem Dv.mix_step (d : Dv) (left : Int → Bool) (x : Int) (s : List UInt8) (hf : lastOf d.ws x = some s) : (d.mix left).keep x s = d.mix (fun y => left y && !decide (y = x)) := by
  unfold Dv.mix Dv.keep Dv.seen
  congr
  funext y
  by_cases hy : y = x
  · subst hy; simp [hf]
  · simp [hy]
theorem Dv.mix_end (d : Dv) (left : Int → Bool) (h : ∀ x, left x = false) : (d.mix left).settled = d.flushed := by
  unfold Dv.mix Dv.settled Dv.flushed
  congr
  funext y
  simp [h y]

set_option maxHeartbeats 4000000 in
set_option maxRecDepth 8000 in
theorem flush_any {w : World} {B g bs bl k : Nat} {v : Value} {d : Dv} (h : Dev w B g bs bl v k d) (hk : k + d.ws.length ≤ 800000000) (hd : d.done ≤ 800000000) :
    Calls Tryz.prog 59 #[.pointer (some ⟨g, 0, none⟩)] w fun e w' => e = .returned (.int .i64 d.flush.2) ∧ ∃ bl' v' k', Dev w' B g bs bl' v' k' d.flush.1 ∧ k' + d.flush.1.ws.length ≤ k + d.ws.length ∧ Keeps (Foot g bs bl v) w w' ∧ ∀ i, Foot g bs bl' v' i → Foot g bs bl v i ∨ w.heap.size ≤ i := by
  have c4 := h.c4
  by_cases hdn : d.down = true
  · have hfl : d.flush = (d, 50) := by unfold Dv.flush; rw [if_pos hdn]
    rw [hfl]
    rw [hdn] at c4
    have HH := Lib.hid h
    clear h hfl hdn hk hd
    go_enter Tryz.func59, Tryz.ntmps59
    go_wp2_with (go_at_call 95; refine (power_at g true _ c4).mono ?_; rintro e w1 ⟨rfl, rfl⟩)
    go_ret
    exact ⟨rfl, bl, v, k, HH.out, Nat.le_refl _, Keeps.refl _ _, fun i hi => .inl hi⟩
  · have hd0 : d.down = false := by simpa using hdn
    have hst := step_any h (by omega)
    by_cases hsd : d.step.down = true
    · have hfl : d.flush = (d.step, 50) := by unfold Dv.flush; rw [if_neg hdn, if_pos hsd]
      rw [hfl]
      rw [hd0] at c4
      rw [hsd] at hst
      have HH := Lib.hid hst
      clear h hfl hdn hk hd hst hsd
      go_enter Tryz.func59, Tryz.ntmps59
      go_wp2_with (first
        | (go_at_call 95; refine (power_at g false _ c4).mono ?_; rintro e w1 ⟨rfl, rfl⟩)
        | (go_at_call 96; refine HH.out.mono ?_; rintro e w1 ⟨rfl, hD1, hg1⟩)
        | fail)
      go_ret
      exact ⟨rfl, bl, v, k, hD1, Nat.le_refl _, (Keeps.one hg1).wide (fun i hi => .inl hi), fun i hi => .inl hi⟩
    · have hfl : d.flush = (d.step.flushed, 0) := by unfold Dv.flush; rw [if_neg hdn, if_neg hsd]
      have hsd' : d.step.down = false := by simpa using hsd
      rw [hfl]
      rw [hd0] at c4
      rw [hsd'] at hst
      obtain ⟨d1, hd1⟩ : ∃ d1, d1 = d.step := ⟨_, rfl⟩
      have hwl : d1.ws.length = d.ws.length := by rw [hd1]; rfl
      rw [← hd1] at hst ⊢
      have HST := Lib.hid hst
      have HK := Lib.hid hk
      have HWL := Lib.hid hwl
      have hgB := fun i (hi : Foot g bs bl v i) => (h.foot_lt hi).2
      have HFT := Lib.hid hgB
      clear h hfl hdn hk hd hst hsd hsd' hd0 hd1 hwl hgB
      go_enter Tryz.func59, Tryz.ntmps59
      go_wp2_with (first
        | (go_at_call 95; refine (power_at g false _ c4).mono ?_; rintro e w1 ⟨rfl, rfl⟩)
        | (go_at_call 96; refine HST.out.mono ?_; rintro e w1 ⟨rfl, hD1, hg1⟩
           have c3 := hD1.c3
           obtain ⟨w2, cnt0, hrr, hR0, hg2, hz2⟩ := hD1.last.range Tryz.underlying3 Tryz.underlying90
           obtain ⟨r, hr⟩ : ∃ r, r = w1.heap.size := ⟨_, rfl⟩
           rw [← hr] at hrr hR0
           have hK2 : Keeps (Foot g bs bl v) w w2 := ((Keeps.one hg1).wide (fun i hi => .inl hi)).grown hg2 (fun q e => by cases e)
           have HK2 := Lib.hid hK2
           have HR0 := Lib.hid hR0
           have hrw : w.heap.size ≤ r := by have := hg1.size; omega
           have HRW := Lib.hid hrw
           have hD2 := hD1.new hg2
           have HD2 := Lib.hid hD2
           clear hK2 hR0 hrw hD2 hD1 hg1 hg2 hr hz2)
        | (refine wpL_range rfl _ (.tmp 20) rfl rfl hrr ?_)
        | fail)
      go_frame
      go_loopw [5] (fun _ wr => ∃ left cnt k2, RangeI Tryz.prog 3 wr bl r d1.ws.length (lastOf d1.ws) left cnt ∧ Dev wr B g bs bl v k2 (d1.mix left) ∧ k2 + cnt ≤ k + d1.ws.length ∧ Keeps (Foot g bs bl v) w wr) (fun _ wr => wr.rangeLeft bl r)
      case atStart => exact ⟨_, cnt0, k, HR0.out, by rw [Dv.mix_start]; exact HD2.out, by have := HR0.out.le; omega, HK2.out⟩
      case round =>
        obtain ⟨left, cnt, k2, hR, hDr, hkc, hKr⟩ := hrel
        have HKC := Lib.hid hkc
        have HKr := Lib.hid hKr
        clear hkc hKr
        go_wp2_with (first
          | (refine wpL_next rfl (.tmp 21) rfl Tryz.underlying3 rfl hR (fun hall => ?_) (fun x s w3 cnt3 hkx hlx hfx hs3 hR3 hlt hg3 hz3 hen => ?_))
          | (refine wpL_new rfl rfl ?_; intro W1 b6 hb6 hr6 hg6 hz6)
          | (refine wpL_store rfl (.tmp 6) (.tmp 26) rfl rfl rfl hr6 rfl hs3 ?_
             intro W2 hr7 hg7 hz7
             have hrf : ∀ j, Foot g bs bl v j → j < wr.heap.size ∧ j ≠ r := fun j hj => by have h1 := HFT.out j hj; have h2 := HKr.out.size; have h3 := HRW.out; omega
             have hb6v := hb6.out
             have hKP := keep_any ((hDr.keeps (Keeps.one hg3) (fun j hj hf => (hrf j hf).2 hj)).new hg6 |>.keeps (Keeps.one hg7) (fun j hj hf => by have := (hrf j hf).1; omega)) x hkx s hs3 (by have h1 := HKC.out; have h2 := HK.out; have h3 := HWL.out; omega)
             have hrl := hR.lt
             have hbl := hR.owns.lt
             have hR7 := (hR3.kept hg6 (fun e => by cases e) (fun e => by cases e)).kept hg7 (fun e => by have := Option.some.inj e; omega) (fun e => by have := Option.some.inj e; omega)
             have hK7 : Keeps (Foot g bs bl v) w W2 := ((HKr.out.grown hg3 (fun q e => .inr (by have := Option.some.inj e; have h3 := HRW.out; omega))).grown hg6 (fun q e => by cases e)).grown hg7 (fun q e => .inr (by have := Option.some.inj e; have h2 := HKr.out.size; omega))
             have hsl := hDr.sl
             have HKP := Lib.hid hKP
             have HR7 := Lib.hid hR7
             have HK7 := Lib.hid hK7
             have HLE := Lib.hid (And.intro hR.left_eq hlt)
             clear hKP hR7 hK7 hrf hR3 hg3 hz3 hg6 hz6 hg7 hz7 hr6 hrl hbl hb6v hlt)
          | (refine wpL_load rfl (.tmp 6) rfl rfl hr7 hs3 ?_)
          | (go_at_call 45; refine HKP.out.mono ?_; rintro e w8 ⟨rfl, hD8, hg8⟩)
          | (go_at_call 46; refine (settle_any hDr).mono ?_; rintro e w9 ⟨rfl, hD9, hg9⟩)
          | fail)
        · go_ret
          rw [Dv.mix_end d1 left hall] at hD9
          refine ⟨rfl, wr.heap.size, .slice none 0 0, k2, hD9, ?_, HKr.out.grown hg9 (fun q e => .inl (.inl (Option.some.inj e).symm)), fun i hi => ?_⟩
          · have h1 := HKC.out
            have h2 := HWL.out
            show k2 + 0 ≤ _
            omega
          · rcases hi with hi | hi | hi | hi
            · exact .inl (.inl hi)
            · exact .inl (.inr (.inl hi))
            · exact .inr (by have := HKr.out.size; omega)
            · cases hi
        · have hR8 := HR7.out.kept hg8 (fun e => hsl (Option.some.inj e).symm) (fun e => by
            have h1 := Option.some.inj e
            have h2 := HFT.out bs (.inr (.inl rfl))
            have h3 := HRW.out
            omega)
          have h2 := HLE.out
          refine ⟨⟨_, cnt3, k2 + 1, hR8, ?_, ?_, HK7.out.grown hg8 (fun q e => .inl (.inr (.inl (Option.some.inj e).symm)))⟩, ?_⟩
          · rw [← Dv.mix_step d1 left x s hfx]
            exact hD8
          · have h1 := HKC.out
            omega
          · rw [hR8.left_eq, h2.1]
            exact h2.2

end Go.Proofs.YtpalmobmabkadaaGreatDoor
