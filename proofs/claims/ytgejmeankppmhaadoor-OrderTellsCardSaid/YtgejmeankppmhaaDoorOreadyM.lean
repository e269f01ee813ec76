/- The program's Ready. -/
import Derived.Test.YtgejmeankppmhaaDoorOrrdyM
import Derived.Test.YtgejmeankppmhaaDoorOfstM
import Derived.ScopeJumps
namespace Go.Proofs.YtgejmeankppmhaaDoor
open Go.RowKit
open Bh (En Ents ens ens_get ecell may_any)
set_option maxRecDepth 20000

/-- Two boxes of marks. -/
structure NP (w wr : World) (p4 p5 La Ba L B : Nat) : Prop where
  r4 : wr.heap[p4]? = some (.cells #[.int .u64 (La : Int), .int .u64 (Ba : Int)] 25 (0, 0))
  r5 : wr.heap[p5]? = some (.cells #[.int .u64 (L : Int), .int .u64 (B : Int)] 25 (0, 0))
  bel : Below w.heap.size w wr
theorem NP.below {w wr w' : World} {p4 p5 La Ba L B : Nat} (h : NP w wr p4 p5 La Ba L B) (hb : Below wr.heap.size wr w') : NP w w' p4 p5 La Ba L B :=
  ⟨row_below h.r4 hb, row_below h.r5 hb, h.bel.trans (hb.mono h.bel.size)⟩
theorem np_new (w : World) (La Ba L B : Nat) : NP w ((w.alloc (.cells #[.int .u64 (La : Int), .int .u64 (Ba : Int)] 25)).alloc (.cells #[.int .u64 (L : Int), .int .u64 (B : Int)] 25)) w.heap.size (w.heap.size + 1) La Ba L B :=
  ⟨row_below (heap_alloc_new w _) ((Below.refl _ _).alloc (Nat.le_refl _) _), by have := heap_alloc_new (w.alloc (.cells #[.int .u64 (La : Int), .int .u64 (Ba : Int)] 25)) (.cells #[.int .u64 (L : Int), .int .u64 (B : Int)] 25); simpa using this, ((Below.refl _ _).alloc (Nat.le_refl _) _).alloc (by simp) _⟩
theorem NP.far {w wr w' : World} {p4 p5 La Ba L B : Nat} (h : NP w wr p4 p5 La Ba L B) {row : Option Nat} (hg : wr.grownBy w' row) (h4 : some p4 ≠ row) (h5 : some p5 ≠ row) (hr : ∀ k, row = some k → w.heap.size ≤ k) : NP w w' p4 p5 La Ba L B :=
  ⟨row_far h.r4 hg h4, row_far h.r5 hg h5, h.bel.grown hg h.bel.size hr⟩
theorem NP.set5 {w wr : World} {p4 p5 La Ba L B : Nat} (h : NP w wr p4 p5 La Ba L B) (hne : p4 ≠ p5) (hp : w.heap.size ≤ p5) (M1 M2 : Nat) : NP w (wr.setCells p5 0 [.int .u64 (M1 : Int), .int .u64 (M2 : Int)]) p4 p5 La Ba M1 M2 := by
  have hs := pair_set (x := .int .u64 (M1 : Int)) (y := .int .u64 (M2 : Int)) h.r5
  exact ⟨row_far h.r4 hs.2 (fun e => hne (Option.some.inj e)), hs.1, h.bel.grown hs.2 h.bel.size (fun k e => by cases e; exact hp)⟩
/-- A scope that the run enters, comes to its label, and jumps back to it: all from the label on is told once. -/
theorem wp_scope_again {P : Program} {a : Act} {w : World} {Q : Exit → Act → World → Prop} {c rest : Code} (l : Nat) (J : Act → World → Prop) (μ : Act → World → Nat) (hf : findLabel c l = some (Code.skip.seq rest))
    (pass : ∀ a w, J a w → rest.wp P (Exit.jump l (fun a' w' => J a' w' ∧ μ a' w' < μ a w) Q) a w)
    (first : (∀ a w, J a w → rest.wp P (Exit.jump l J Q) a w) → c.wp P (Exit.jump l J Q) a w) : (Code.scope c).wp P Q a w :=
  wp_scope_jumps l J μ hf (first fun a w h => wp_mono (pass a w h) fun e a' w' hq => by
    cases e <;> first | exact hq | exact ⟨hq.1, hq.2.1⟩) fun a w h => wp_seq (wp_skip (pass a w h))
/-- What holds when the loop begins anew. -/
structure AJ (w W : World) (es : List En) (p4 p5 bm La Ba L B : Nat) (v8 : Value) (acc : List Nat) (Lt Bt : Nat) : Prop where
  rj : RJ La Ba es L B acc Lt Bt
  own : W.ownsRow (bm + 1) 23 1 v8 acc.length (u64s acc)
  np : NP w W p4 p5 La Ba Lt Bt
  mp : ∃ m, m ≤ es.length ∧ MapO W es bm m (fmap La Ba es Lt Bt)
  lt : w.heap.size ≤ p4 ∧ p5 = p4 + 1 ∧ p5 < bm
theorem AJ.below {w W W' : World} {es : List En} {p4 p5 bm La Ba L B : Nat} {v8 : Value} {acc : List Nat} {Lt Bt : Nat} (h : AJ w W es p4 p5 bm La Ba L B v8 acc Lt Bt) (hb : Below W.heap.size W W') : AJ w W' es p4 p5 bm La Ba L B v8 acc Lt Bt :=
  ⟨h.rj, own_below h.own hb, h.np.below hb, by obtain ⟨m, h1, h2⟩ := h.mp; exact ⟨m, h1, MapO.below h2 hb⟩, h.lt⟩
theorem wp_app1 {P : Program} {w : World} {K : Act → World → Prop} {o : Oper} {a : Act} {Q : Exit → Act → World → Prop} (s x : Operand) (t tx : TypeId)
    (ho : o.op = .call { callee := .builtin .append, args := #[s, x], argTypes := #[t, tx] })
    {base m n sz bt : Nat} {e : TypeId} {z v y : Value} {xs news : List Value} (hT : Elem P t e z sz bt) (hs : a.eval s = v) (hx : a.eval x = y) (hown : w.ownsRow base e sz v n xs) (hsrc : Src P sz tx y m news w)
    (h63 : n + m ≤ maxLen) (hbytes : (n + m) * bt ≤ 140737488355328) (hbase : base ≤ w.heap.size)
    (h : ∀ v' w', w'.ownsRow base e sz v' (n + m) (xs ++ news) → w.grownBy w' v.ownBlock → K (a.put o.dst v') w') : o.wp P a w K Q := by
  obtain ⟨v', w', hr, h1, h2, _⟩ := run_app (ty := o.type) hT hown hsrc h63 hbytes hbase
  unfold Oper.wp execOp
  simp only [ho, resolve, invoke, builtin, Sem.run_bind, Sem.run_pure, Result.andThen_ok, List.map_toArray, List.map_cons, List.map_nil, hs, hx, hr]
  exact h v' w' h1 h2
theorem wpL_delete {P : Program} {w w' : World} {ops : Array Oper} {rest : List Oper} {o : Oper} {a : Act} {Q : Exit → Act → World → Prop} (hgd : o.guard = none) (s x : Operand) (t tx : TypeId)
    (ho : o.op = .call { callee := .builtin .delete, args := #[s, x], argTypes := #[t, tx] }) {v y : Value} (hs : a.eval s = v) (hx : a.eval x = y) (hr : (Builtin.delete_ #[t, tx] o.type #[v, y]).run P w = .ok (.tuple #[]) w')
    (h : wpList P ops Q rest (a.put o.dst (.tuple #[])) w') : wpList P ops Q (o :: rest) a w := by
  refine wpList_plain hgd fun K hK => ?_
  unfold Oper.wp execOp
  simp only [ho, resolve, invoke, builtin, Sem.run_bind, Sem.run_pure, Result.andThen_ok, List.map_toArray, List.map_cons, List.map_nil, hs, hx, hr]
  exact hK _ _ h
set_option maxHeartbeats 8000000 in
theorem ready_any {w : World} {A : Option Addr} {n c : Nat} {es : List En} (h : Ents w A n c es) (hn : n ≤ 40) (ht : Tab w) (La Ba L B : Nat) (hLa : La < 18446744073709551616) (hBa : Ba < 18446744073709551616) (hg : Gd L B) (hB : B < 18446744073709551616) :
    Calls Tryd.prog 15 #[.slice A n c, .agg #[.int .u64 (La : Int), .int .u64 (Ba : Int)], .agg #[.int .u64 (L : Int), .int .u64 (B : Int)]] w (TellsL w (Rdy La Ba es L B)) := by
  have HH := Lib.hid h
  have HG := Lib.hid (RJ.start (La := La) (Ba := Ba) (es := es) hg hB)
  have HLA := Lib.hid (And.intro hLa hBa)
  have HT := Lib.hid ht
  have hL := hg.1
  have HF := Lib.hid (fun (W : World) (hW : Below w.heap.size w W) (p q : Nat) (hp : W.heap[p]? = some (.cells #[.int .u64 (La : Int), .int .u64 (Ba : Int)] 25 (0, 0))) (hq : W.heap[q]? = some (.cells #[.int .u64 (L : Int), .int .u64 (B : Int)] 25 (0, 0))) =>
    firsts_any (h.below hW) (fun x => Hs La Ba x && !Hs L B x) p q (fun W2 hb2 x hx => ready1_any La Ba L B x p q W2 hLa hBa (by omega) hB hx (row_below hp hb2) (row_below hq hb2)))
  clear h hLa hBa hg hB ht
  have HN0 := Lib.hid (np_new w La Ba L B)
  go_enter Tryd.func15, Tryd.ntmps15
  go_wp2_with (fail)
  generalize hW : (w.alloc (.cells #[.int .u64 (La : Int), .int .u64 (Ba : Int)] 25)).alloc (.cells #[.int .u64 (L : Int), .int .u64 (B : Int)] 25) = W at *
  clear hW
  obtain ⟨p4, hp4⟩ : ∃ p4, w.heap.size = p4 := ⟨_, rfl⟩
  obtain ⟨p5, hp5⟩ : ∃ p5, w.heap.size + 1 = p5 := ⟨_, rfl⟩
  simp only [hp5] at HN0 ⊢
  have HN00 : Hid (NP w W p4 p5 La Ba L B) := hp4 ▸ HN0
  rw [hp4]
  have HPP := Lib.hid (show w.heap.size ≤ p4 ∧ p5 = p4 + 1 by omega)
  clear HN0 hp4 hp5
  refine wp_scope_again 0 (fun a W => ∃ (bm : Nat) (v8 : Value) (acc : List Nat) (Lt Bt : Nat) (u9 u10 u11 u12 u13 u14 u15 u16 u17 u18 u19 u20 u21 u22 u23 u24 u25 u26 u27 u28 u29 u30 u31 u32 u33 u34 u35 u36 u37 u38 u39 u40 u41 u42 u43 u44 u45 u46 u47 u48 u49 u50 u51 u52 u53 u54 u55 u56 u3 u1 u2 : Value), a = ({ tmps := #[.slice A n c, u1, u2, u3, .pointer (some ⟨p4, 0, none⟩), .pointer (some ⟨p5, 0, none⟩), .slice none 0 0, .map (some bm), v8, u9, u10, u11, u12, u13, u14, u15, u16, u17, u18, u19, u20, u21, u22, u23, u24, u25, u26, u27, u28, u29, u30, u31, u32, u33, u34, u35, u36, u37, u38, u39, u40, u41, u42, u43, u44, u45, u46, u47, u48, u49, u50, u51, u52, u53, u54, u55, u56], defers := [] } : Act) ∧ Hid (AJ w W es p4 p5 bm La Ba L B v8 acc Lt Bt)) (fun a _ => 41 - slen (a.tmps.getD 8 undef)) rfl ?pass ?first
  case first =>
    intro hrest
    have HRS := Lib.hid hrest
    clear hrest
    go_wp2_with (first
      | (go_at_call 35; refine (HF.out _ HN00.out.bel _ _ HN00.out.r4 HN00.out.r5).mono ?_; rintro e w1 ⟨m, hm, bm, rfl, hbm, hmo, hb1⟩
         have HN1 := Lib.hid (HN00.out.below hb1)
         have HM1 := Lib.hid hmo
         have HMM := Lib.hid (And.intro hm hbm)
         clear hmo hb1 hm hbm)
      | fail)
    go_step3
    rename_i hkk
    refine hkk _ _ ?_
    refine HRS.out _ _ ⟨bm, _, [], L, B, _, _, _, _, _, _, _, _, _, _, _, _, _, _, _, _, _, _, _, _, _, _, _, _, _, _, _, _, _, _, _, _, _, _, _, _, _, _, _, _, _, _, _, _, _, _, _, _, _, _, _, rfl, Lib.hid ⟨HG.out, World.ownsRow_nil _ _ _ _, HN1.out, ⟨m, by have := HMM.out.1; omega, HM1.out⟩, ?_⟩⟩
    have h1 := HPP.out
    have h2 := HMM.out.2
    have h3 := (Array.getElem?_eq_some_iff.1 HN00.out.r5).1
    exact ⟨h1.1, h1.2, by omega⟩
  case pass =>
    rintro a1 W1 ⟨bm, v8, acc, Lt, Bt, u9, u10, u11, u12, u13, u14, u15, u16, u17, u18, u19, u20, u21, u22, u23, u24, u25, u26, u27, u28, u29, u30, u31, u32, u33, u34, u35, u36, u37, u38, u39, u40, u41, u42, u43, u44, u45, u46, u47, u48, u49, u50, u51, u52, u53, u54, u55, u56, u3, u1, u2, rfl, HAJ⟩
    go_wp2_with (fail)
    go_loopw [8, 18] (fun vr kr wr => vr = v8 ∧ ∃ k : Nat, k ≤ 64 ∧ kr = .int .u64 (k : Int) ∧ Hid (∀ j, j < k → cand La Ba es Lt Bt (Lt + 1 + j) = false) ∧ Hid (AJ w wr es p4 p5 bm La Ba L B v8 acc Lt Bt)) (fun _ kr _ => 64 - (intOf kr).toNat)
    case atStart => exact ⟨rfl, 0, by omega, rfl, Lib.hid (fun j hj => absurd hj (Nat.not_lt_zero _)), HAJ⟩
    case round =>
      obtain ⟨rfl, k, hk, rfl, HK, HA⟩ := hrel
      have hLt := HA.out.rj.gd.1
      by_cases hlt : k < 64
      · obtain ⟨m, hm, hmo⟩ := HA.out.mp
        obtain ⟨x, hx⟩ : ∃ x, Lt + 1 + k = x := ⟨_, rfl⟩
        have hx64 : x < 18446744073709551616 := by omega
        have hlk : ∀ W : World, MapO W es bm m (fmap La Ba es Lt Bt) → (Instr.lookup 85 (.map (some bm)) (.int .u64 (x : Int)) true).run Tryd.prog W = .ok (.tuple #[.agg ((fmap La Ba es Lt Bt x).getD Ez.cells), .bool (fmap La Ba es Lt Bt x).isSome]) W := fun W hW => MapE.lookOk (t := 85) (e := 43) Tryd.underlying23 Tryd.underlying85 hW (ez_zero _) x hx64
        have hl1 := hlk wr hmo
        have f50 := cell_of_row wr p5 0 _ _ _ HA.out.np.r5
        have e1 : IntKind.u64.wrap ((Lt : Int) + 1) = ((Lt + 1 : Nat) : Int) := by rw [IntKind.wrap_u64]; omega
        have e2 : IntKind.u64.wrap ((Lt : Int) + 1 + (k : Int)) = (x : Int) := by rw [IntKind.wrap_u64]; omega
        have e3 : IntKind.u64.wrap ((k : Int) + 1) = ((k + 1 : Nat) : Int) := by rw [IntKind.wrap_u64]; omega
        have HX := Lib.hid hx
        have HNX := Lib.hid (fun (hc : cand La Ba es Lt Bt x = false) (j : Nat) (hj : j < k + 1) => show cand La Ba es Lt Bt (Lt + 1 + j) = false from by
          rcases Nat.lt_or_ge j k with h1 | h1
          · exact HK.out j h1
          · obtain rfl : j = k := by omega
            rw [HX.out]
            exact hc)
        have HX64 := Lib.hid hx64
        have HLT := Lib.hid hLt
        have HMO := Lib.hid (And.intro hm hmo)
        have HBL := Lib.hid (MapE.lt hmo)
        have HBA := Lib.hid (fun cs : Obj => (Below.refl wr.heap.size wr).alloc (Nat.le_refl _) cs)
        clear hm hmo hlk hx hx64 hLt
        cases hF : fmap La Ba es Lt Bt x with
        | none =>
          have HC := Lib.hid (HNX.out (cand_none hF))
          rw [hF] at hl1
          simp only [Option.getD_none, Option.isSome_none] at hl1
          unfold Ez En.cells at hl1
          dsimp only at hl1
          clear hF
          go_wp2_with (first
            | (refine wpL_look rfl _ (.tmp 27) (.tmp 28) true rfl rfl rfl hl1 ?_)
            | fail)
          go_roundw
          case rel => exact ⟨rfl, k + 1, by omega, rfl, HC, Lib.hid (HA.out.below (HBA.out _))⟩
          case measure => simp [intOf]; omega
        | some cs =>
          obtain ⟨E, hEm, hEx, rfl, hcand⟩ := cand_some hF
          rw [hF] at hl1
          simp only [Option.getD_some, Option.isSome_some] at hl1
          have HY := Lib.hid (fun W (hb : Below w.heap.size w W) => may_any E Lt Bt W ((HH.out.reads E hEm).below hb) (by have := HLT.out; omega) HA.out.rj.bt)
          have HBW := Lib.hid (fun cs : Obj => HA.out.np.bel.trans ((HBA.out cs).mono HA.out.np.bel.size))
          have fa0 : ∀ cs : Obj, (wr.alloc cs).cell? ⟨p5, 0, none⟩ = some (.int .u64 (Lt : Int)) := fun cs => cell_of_row _ p5 0 _ _ _ (row_below HA.out.np.r5 (HBA.out cs))
          have fa1 : ∀ cs : Obj, (wr.alloc cs).cell? ⟨p5, 1, none⟩ = some (.int .u64 (Bt : Int)) := fun cs => cell_of_row _ p5 1 _ _ _ (row_below HA.out.np.r5 (HBA.out cs))
          clear hF hEm
          obtain ⟨b1, hb1⟩ : ∃ b1, E.may Lt Bt = b1 := ⟨_, rfl⟩
          rw [hb1] at HY hcand
          obtain ⟨ix, tm, st, kd, cl, rq, fr, ct, da, A1, bn, bc, ls⟩ := E
          unfold En.cells at hl1 HY
          dsimp only at hl1 HY hEx
          clear hb1 hEx
          cases b1
          · have HC := Lib.hid (HNX.out (by rw [hcand]; simp))
            clear hcand
            go_wp2_with (first
              | (refine wpL_look rfl _ (.tmp 27) (.tmp 28) true rfl rfl rfl hl1 ?_)
              | (go_at_call 12; refine (HY.out _ (HBW.out _)).mono ?_; rintro e w1 ⟨rfl, hb1⟩)
              | fail)
            go_roundw
            case rel => exact ⟨rfl, k + 1, by omega, rfl, HC, Lib.hid ((HA.out.below (HBA.out _)).below hb1)⟩
            case measure => simp [intOf]; omega
          · by_cases hr : Room Lt x
            · have HS := Lib.hid (fun W hT => set_ok Lt Bt x W HLT.out HA.out.rj.bt hT hr)
              have hcx : cand La Ba es Lt Bt x = true := by rw [hcand, decide_eq_true hr]; rfl
              have hleast : ∀ y, cand La Ba es Lt Bt y = true → x ≤ y := fun y hy => by
                have h1 := cand_low hy
                rcases Nat.lt_or_ge y x with h2 | h2
                · have h3 := HK.out (y - (Lt + 1)) (by have := HX.out; omega)
                  rw [show Lt + 1 + (y - (Lt + 1)) = y by omega, hy] at h3
                  cases h3
                · exact h2
              have HRJ := Lib.hid (HA.out.rj.next (.inr ⟨hcx, hleast⟩) (by have := HX.out; omega))
              have hfm := fmap_set (La := La) (Ba := Ba) (es := es) HA.out.rj.bt hr
              have HFM := Lib.hid hfm
              clear hcand hr hcx hleast hfm HNX
              go_wp2_with (first
                | (refine wpL_look rfl _ (.tmp 27) (.tmp 28) true rfl rfl rfl hl1 ?_)
                | (go_at_call 12; refine (HY.out _ (HBW.out _)).mono ?_; rintro e w1 ⟨rfl, hb1⟩
                   have HA1 := Lib.hid ((HA.out.below (HBA.out _)).below hb1)
                   have g0 := cell_of_row w1 p5 0 _ _ _ HA1.out.np.r5
                   have g1 := cell_of_row w1 p5 1 _ _ _ HA1.out.np.r5
                   have HS1 := Lib.hid hb1.size
                   clear hb1 fa0 fa1)
                | (go_at_call 19; refine (HS.out _ (HT.out.below HA1.out.np.bel)).mono ?_; rintro e w2 ⟨rfl, hb2⟩
                   have HA2 := Lib.hid (HA1.out.below hb2)
                   obtain ⟨M1, hM1⟩ : ∃ y, y = (mset Lt Bt x).1 := ⟨_, rfl⟩
                   obtain ⟨M2, hM2⟩ : ∃ y, y = (mset Lt Bt x).2 := ⟨_, rfl⟩
                   rw [← hM1, ← hM2]
                   rw [← hM1, ← hM2] at HRJ HFM
                   clear hM1 hM2
                   have HOL := Lib.hid HA2.out.own.lt
                   have HZ2 := Lib.hid (show wr.heap.size ≤ w2.heap.size from Nat.le_trans ((HBA.out (.cells #[] 0)).size) (by first | exact Nat.le_trans (by simp) (Nat.le_trans HS1.out hb2.size)))
                   have HX3 := Lib.hid (HA2.out.below ((Below.refl _ _).alloc (Nat.le_refl _) (.cells #[.int .u64 (M1 : Int), .int .u64 (M2 : Int)] 25)))
                   have HB3 := Lib.hid (heap_alloc_new w2 (.cells #[.int .u64 (M1 : Int), .int .u64 (M2 : Int)] 25))
                   obtain ⟨m2, hm2, hmo2⟩ := HX3.out.mp
                   obtain ⟨w4, hdel, hmd, hgd, hzd⟩ := MapE.drop (t := 85) (e := 43) Tryd.underlying23 Tryd.underlying85 hmo2 x HX64.out 0
                   have HMD := Lib.hid (And.intro hm2 hmd)
                   have HGD := Lib.hid hgd
                   clear hb2 HA1 g0 g1 HA2 hmo2 hmd hgd hm2)
                | (refine wpL_delete rfl (.tmp 48) (.tmp 49) _ _ rfl rfl rfl hdel ?_)
                | fail)
              obtain ⟨p13, hp13⟩ : ∃ p, w2.heap.size = p := ⟨_, rfl⟩
              rw [hp13] at HB3 ⊢
              have hbm13 : bm < p13 := by
                have h1 := MapE.lt HMO.out.2
                have h2 := (Array.getElem?_eq_some_iff.1 HB3.out).1
                have h3 := HMD.out
                have h4 := HA.out.lt
                have h5 := HBL.out
                have h6 := HZ2.out
                omega
              have HLT5 := Lib.hid HA.out.lt
              have hlt5 := HLT5.out.2.2
              have hr13 := row_far HB3.out HGD.out (fun e => by have := Option.some.inj e; have h9 := HLT5.out; omega)
              have hr5 := row_far HX3.out.np.r5 HGD.out (fun e => by have := Option.some.inj e; have h9 := HLT5.out; omega)
              have hr4 := row_far HX3.out.np.r4 HGD.out (fun e => by have := Option.some.inj e; have h9 := HLT5.out; omega)
              have hown := HX3.out.own.kept HGD.out (.inr (fun e => by have := (HX3.out.own.lt _ e).1; omega))
              have hbel := HX3.out.np.bel.grown HGD.out HX3.out.np.bel.size (fun k e => by have := Option.some.inj e; have h9 := HLT5.out; omega)
              have hz5 := (Array.getElem?_eq_some_iff.1 hr13).1
              have hz4 : w4.drew.heap.size = p13 + 1 := by
                have h1 := hzd
                simp at h1
                show w4.heap.size = _
                omega
              obtain ⟨A2, c2, rfl⟩ := ownsRow_form hown
              have hal : acc.length ≤ 40 := by have := HA.out.rj.un; have := HH.out.len; omega
              refine wp_segs [([0, 1, 4], 2), ([], 3), ([5], 6)] [] (fun y => y.heap[p13]? = some (.cells #[.int .u64 (M1 : Int), .int .u64 (M2 : Int)] 25 (0, 0))) (by kernel_rfl) (by kernel_rfl) (fun d _ _ _ _ h => by cases d <;> exact h) hr13 ?_
              intro q hq
              have d0 := fun z => cell_of_row (q z) p13 0 _ _ _ (hq z)
              have d1 := fun z => cell_of_row (q z) p13 1 _ _ _ (hq z)
              simp only [pickI, Option.toList_some, List.cons_append, List.nil_append, List.getElem?_toArray, List.getElem?_cons_succ, List.getElem?_cons_zero]
              try go_frame
              go_big_quiet_step (fail)
              go_big_quiet_step (fail)
              go_big_quiet_step (fail)
              refine wpQuiet_nil ?_
              clear hq q d0 d1
              refine seg_op (by simp only [List.getElem?_toArray, List.getElem?_cons_succ, List.getElem?_cons_zero]; rfl) fun K hK => ?_
              go_simp
              have hS2 := row_below (show w4.drew.heap[p13]? = _ from hr13) ((Below.refl w4.drew.heap.size w4.drew).alloc (Nat.le_refl _) (.cells #[.int .u64 (x : Int)] 23))
              refine hK.out _ _ (seg_keep hS2 ?_)
              clear hK K
              intro q hq
              refine wpQuiet_nil ?_
              clear hq q
              refine seg_op (by simp only [List.getElem?_toArray, List.getElem?_cons_succ, List.getElem?_cons_zero]; rfl) fun K hK => ?_
              rw [if_pos (by rfl)]
              refine wp_app1 (m := 1) (v := .slice A2 acc.length c2) (y := .slice (some ⟨w4.drew.heap.size, 0, none⟩) 1 1) (.tmp 50) (.tmp 52) _ _ rfl El64 (by rfl) (by rw [hz4]; rfl) (World.ownsRow.alloc (w := w4.drew) hown _) (Src.lit (w := w4.drew) (e := 23) (n := 1) (sz := 1) Tryd.underlying58 (#[.int .u64 (x : Int)] : Array Value) rfl (by intro u hu; simp at hu; subst hu; rfl)) (by unfold maxLen; omega) (by omega) (by simp; omega) ?_
              intro v2 w5 hown2 hg2
              have hol : ∀ k, (Value.slice A2 acc.length c2).ownBlock = some k → bm + 1 ≤ k ∧ k < p13 := fun k e => by have h1 := HOL.out k e; omega
              have hB4 := (Below.refl w4.drew.heap.size w4.drew).alloc (Nat.le_refl _) (.cells #[.int .u64 (x : Int)] 23)
              have hS3 := row_far hS2 hg2 (fun e => by have h1 := (hol _ e.symm).2; have h9 := HLT5.out; omega)
              have hr5b := row_far (row_below (show w4.drew.heap[p5]? = _ from hr5) hB4) hg2 (fun e => by have h1 := (hol _ e.symm).1; have h9 := HLT5.out; omega)
              have hr4b := row_far (row_below (show w4.drew.heap[p4]? = _ from hr4) hB4) hg2 (fun e => by have h1 := (hol _ e.symm).1; have h9 := HLT5.out; omega)
              have hmb : MapO w5 es bm _ _ := MapE.kept (MapO.below (MapE.same (w' := w4.drew) HMD.out.2 rfl) hB4) hg2 (fun e => by have h1 := (hol _ e.symm).1; have h9 := HLT5.out; omega)
              have hbelb := (hbel.drew.alloc (by have := hbel.size; exact this) (.cells #[.int .u64 (x : Int)] 23)).grown hg2 (by have := hbel.size; simp; omega) (fun k e => by have h1 := (hol _ e).1; have h9 := HLT5.out; omega)
              refine hK.out _ _ (seg_keep hS3 ?_)
              clear hK K
              intro q hq
              simp only [pickI, Option.toList_some, List.cons_append, List.nil_append, List.getElem?_toArray, List.getElem?_cons_succ, List.getElem?_cons_zero]
              try go_frame
              go_big_quiet_step (fail)
              refine wpQuiet_nil ?_
              clear hq q
              refine seg_op (by simp only [List.getElem?_toArray, List.getElem?_cons_succ, List.getElem?_cons_zero]; rfl) fun K hK => ?_
              rw [if_pos (by rfl)]
              have hps := pair_set (x := .int .u64 (M1 : Int)) (y := .int .u64 (M2 : Int)) hr5b
              refine wp_store_mid _ (.tmp 5) (.tmp 54) rfl p5 0 #[.int .u64 (M1 : Int), .int .u64 (M2 : Int)] rfl rfl (pair_there hr5b) imA.msize (pair_one _ _) ?_
              have hS4 := row_far hS3 hps.2 (fun e => by have := Option.some.inj e; have h9 := HLT5.out; omega)
              refine hK.out _ _ (seg_keep hS4 ?_)
              clear hK K
              have hAJ2 : AJ w (w5.setCells p5 0 [.int .u64 (M1 : Int), .int .u64 (M2 : Int)]) es p4 p5 bm La Ba L B v2 (acc ++ [x]) M1 M2 := by
                refine ⟨HRJ.out, ?_, ⟨row_far hr4b hps.2 (fun e => by have := Option.some.inj e; have h9 := HLT5.out; omega), hps.1, hbelb.grown hps.2 hbelb.size (fun k e => by have := Option.some.inj e; have h9 := HLT5.out; omega)⟩, ?_, HLT5.out⟩
                · rw [List.length_append, u64s_app]
                  exact hown2.kept hps.2 (.inr (fun e => by have h1 := (hown2.lt _ e).1; have h9 := HLT5.out; omega))
                · refine ⟨_, HMD.out.1, ?_⟩
                  rw [HFM.out]
                  exact MapE.kept hmb hps.2 (fun e => by have := Option.some.inj e; have h9 := HLT5.out; omega)
              have HAJ2 := Lib.hid hAJ2
              obtain ⟨A3, c3, rfl⟩ := ownsRow_form hown2
              clear hAJ2 hS4 hps hbelb hmb hr4b hr5b hS3 hB4 hol hg2 hown2 hS2 hbel hown hr4 hr5 hr13
              intro q hq
              refine wpQuiet_nil ?_
              clear hq q
              go_wp2_with (fail)
              go_step3
              refine ⟨rfl, ⟨bm, _, acc ++ [x], M1, M2, _, _, _, _, _, _, _, _, _, _, _, _, _, _, _, _, _, _, _, _, _, _, _, _, _, _, _, _, _, _, _, _, _, _, _, _, _, _, _, _, _, _, _, _, _, _, _, _, _, _, _, rfl, HAJ2⟩, ?_⟩
              show 41 - (acc.length + 1) < 41 - acc.length
              omega
            · have HC := Lib.hid (HNX.out (by rw [hcand, decide_eq_false hr]; rfl))
              have HS := Lib.hid (fun W => set_no Lt Bt x W HLT.out HX64.out hr)
              clear hcand hr
              go_wp2_with (first
                | (refine wpL_look rfl _ (.tmp 27) (.tmp 28) true rfl rfl rfl hl1 ?_)
                | (go_at_call 12; refine (HY.out _ (HBW.out _)).mono ?_; rintro e w1 ⟨rfl, hb1⟩
                   have HA1 := Lib.hid ((HA.out.below (HBA.out _)).below hb1)
                   have g0 := cell_of_row w1 p5 0 _ _ _ HA1.out.np.r5
                   have g1 := cell_of_row w1 p5 1 _ _ _ HA1.out.np.r5
                   clear hb1 fa0 fa1)
                | (go_at_call 19; refine (HS.out _).mono ?_; rintro e w2 ⟨rfl, hb2⟩
                   have HA2 := Lib.hid (HA1.out.below hb2)
                   clear hb2 HA1 g0 g1)
                | fail)
              go_roundw
              case rel => exact ⟨rfl, k + 1, by omega, rfl, HC, Lib.hid (HA2.out.below ((Below.refl _ _).alloc (Nat.le_refl _) _))⟩
              case measure => simp [intOf]; omega
      · obtain rfl : k = 64 := by omega
        obtain ⟨A2, c2, rfl⟩ := ownsRow_form HA.out.own
        have hall : ∀ y, cand La Ba es Lt Bt y = false := fun y => by
          cases hy : cand La Ba es Lt Bt y
          · rfl
          · have h1 := cand_low hy
            have h2 := cand_top hy
            have h3 := HK.out (y - (Lt + 1)) (by omega)
            rw [show Lt + 1 + (y - (Lt + 1)) = y by omega, hy] at h3
            cases h3
        have HALL := Lib.hid (HA.out.rj.so.done hall)
        clear hall
        go_wp2
        go_ret
        exact ⟨acc, HALL.out, ⟨A2, c2, rfl, ownsRow_rd HA.out.own⟩, HA.out.np.bel⟩
end Go.Proofs.YtgejmeankppmhaaDoor
