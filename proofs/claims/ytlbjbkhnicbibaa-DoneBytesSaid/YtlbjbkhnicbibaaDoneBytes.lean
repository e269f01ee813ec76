/- DoneBytes: any table is written as the document says, and read as it was; any bytes are read as it says. -/
import Derived.Test.YtlbjbkhnicbibaaLives14
import Derived.Test.YtlbjbkhnicbibaaPlain
import Derived.Test.YtlbjbkhnicbibaaTq
import Derived.Test.YtlbjbkhnicbibaaDect
import Derived.Test.YtlbjbkhnicbibaaTbytesr
import Derived.Test.YtlbjbkhnicbibaaTreadr
import Derived.Test.YtlbjbkhnicbibaaTback
import Derived.Test.YtlbjbkhnicbibaaText
namespace Go.Proofs.Ytlbjbkhnicbibaa
open Go.RowKit

theorem Rdr.below {w w' : World} {g : Nat} {s : St} {N : Nat} (h : Rdr w g s) (hg : g < N) (hb : Below N w w') : Rdr w' g s := ⟨(hb.block g hg).trans h.1, h.2⟩
theorem RefR.below {w w' : World} {g n c a : Nat} {A : Option Addr} {b : Bool} {N : Nat} (h : RefR w g A n c a b) (hg : g < N) (hb : Below N w w') : RefR w' g A n c a b := (hb.block g hg).trans h
theorem wpQ_conv {P : Program} {ops : Array Oper} {C : World → Prop} {K : Act → Prop} {o : Oper} {rest : List Oper} {a : Act} (hgd : o.guard = none) (t tx : TypeId) (x : Operand) (ho : o.op = .convert t tx x) {p v : Value} (hx : a.eval x = p) (hrun : ∀ w, C w → (convert t tx p).run P w = .ok v w) (h : wpQuiet P ops C K rest (a.put o.dst v)) : wpQuiet P ops C K (o :: rest) a :=
  wpQ_val hgd v (fun w hw => by simp [execOp, ho, hx, hrun w hw, Result.andThen]) h

set_option maxRecDepth 20000 in
set_option maxHeartbeats 4000000 in
theorem doneBytes_at (T : List Cl) (A : Option Addr) (n c : Nat) (l : List UInt8) (w : World) (hT : Tok T) (h : Rd w w.heap.size 1 A n c (u8s l)) :
    Calls Try.prog 5 #[tbv T, .slice A n c] w fun e w' => e = .returned (.bool true) ∧ Below w.heap.size w w' := by
  by_cases hn : 1000 < n
  · have hn' : (1000 : Int) < (n : Int) := by omega
    clear hn hT
    go_enter Try.func5, Try.ntmps5
    go_wp2_with (first
      | (refine wpL_tbox rfl (.tmp 0) rfl rfl ?_; intro W0 b2 hN; obtain ⟨hb2, hr2, hl2, hz2⟩ := hN)
      | (go_at_call 14; refine (lives14 _).mono ?_; rintro e w9 ⟨rfl, hb9⟩)
      | fail)
    go_ret
    exact ⟨rfl, hl2.trans (hb9.mono hl2.size)⟩
  · have hn' : ¬ (1000 : Int) < (n : Int) := by omega
    have hn6 : n ≤ 1000 := by omega
    have cp := fun W => plain_any T W hT
    have cb := fun W => tbytes_any T W hT
    have crb := fun W => rtbytes_any T W hT
    have hU := rdT_ok ⟨l, false⟩
    have cr := fun W g hW => tread_any g ⟨l, false⟩ W hW
    have crr := fun B g (W : World) h1 h2 h3 => rtread_any B g n c A l W h1 h2 h3 (by omega)
    have crx := fun W g hW => tread_any g ⟨encT T ++ l, false⟩ W hW
    rw [rdT_back T hT l] at crx
    obtain ⟨U, hUe⟩ : ∃ U, U = rdT ⟨l, false⟩ := ⟨_, rfl⟩
    rw [← hUe] at hU cr crr
    have cpu := fun W => plain_any U W hU
    obtain ⟨sf, hsf⟩ : ∃ sf, sf = (rdN 8 ⟨l, false⟩).2 := ⟨_, rfl⟩
    rw [← hsf] at cr crr
    have cbad := fun W g (hW : Rdr W g sf) => (bad_any g sf W hW).mono (fun e w' h => (⟨h.1, by obtain ⟨_, rfl⟩ := h; exact Below.refl _ _⟩ : e = .returned (.bool sf.bad) ∧ Below W.heap.size W w'))
    have cleft := fun W g (hW : Rdr W g sf) => (left_any g sf W hW).mono (fun e w' h => (⟨h.1, by obtain ⟨_, rfl⟩ := h; exact Below.refl _ _⟩ : e = .returned (.int .i64 (sf.l.length : Nat)) ∧ Below W.heap.size W w'))
    have hlen : l.length = n := by have := h.len; rwa [u8s_len] at this
    have crleft := fun W g (a : Nat) (bb : Bool) (hs : refSt l a bb = sf) (ha : a ≤ n) (hW : RefR W g A n c a bb) => (rleft_any g n c a A bb W hW ha (by omega)).mono (fun e w' h => (⟨by rw [h.1, ← hs]; unfold leftOf refSt; cases bb <;> simp [hlen]; omega, by obtain ⟨_, k, rfl⟩ := h; exact ⟨rfl, rfl, rfl, Nat.le_refl _, fun _ _ => rfl⟩⟩ : e = .returned (.int .i64 (sf.l.length : Nat)) ∧ Below W.heap.size W w'))
    have CP := Lib.hid cp
    have CB := Lib.hid cb
    have CRB := Lib.hid crb
    have CR := Lib.hid cr
    have CRR := Lib.hid crr
    have CRX := Lib.hid crx
    have CPU := Lib.hid cpu
    have CBAD0 := Lib.hid cbad
    have CLEFT0 := Lib.hid cleft
    have CRLEFT0 := Lib.hid crleft
    have HD := Lib.hid h
    have HT := Lib.hid hT.1
    have HUT := Lib.hid hU.1
    have HLEN := Lib.hid hlen
    have q1 : ((str (encT T)).toList == (str (encT T)).toList) = true := by simp
    have q2 : (sf.bad == sf.bad) = true := by simp
    have q3 : (((sf.l.length : Nat) : Int) == ((sf.l.length : Nat) : Int)) = true := by simp
    have Q1 := Lib.hid q1
    have HENC : Hid ((encT T).length = 80) := Lib.hid (by rw [encT_len, hT.1])
    clear cp cb crb cr crr crx cpu cbad cleft crleft hT hU hUe hsf h hn hlen
    go_enter Try.func5, Try.ntmps5
    go_wp2_with (first
      | (refine wpL_tbox rfl (.tmp 0) rfl rfl ?_; intro W0 b2 hN; obtain ⟨hb2, hr2, hl2, hz2⟩ := hN)
      | (refine tabA.wpLoad (o := ⟨some 15, _, _, _, _, _⟩) rfl (.tmp 2) rfl rfl hr2.out HT.out ?_)
      | fail)
    refine (CB.out _).mono ?_
    rintro e w1 ⟨v1, rfl, hown1, hb1⟩
    obtain ⟨A1, c1, rfl⟩ := ownsRow_form hown1
    have e2 := Lib.hid (row_below hr2.out hb1)
    have B1 := Lib.hid (hl2.trans (hb1.mono hl2.size))
    have X1 := Lib.hid (ownsRow_rd hown1)
    clear hr2 hb1 hl2 hz2 hown1
    go_wp2_with (fail)
    refine (read_any _ _ _ l _ ((HD.out.below B1.out).more B1.out.size) (by omega)).mono ?_
    rintro e w2 ⟨g, rfl, hg, hR, hb2'⟩
    have G2 := Lib.hid hR
    have BW2 := Lib.hid hb2'
    clear hR hb2'
    go_wp2_with (fail)
    obtain ⟨V, hV⟩ : ∃ V, V = w2.alloc (.cells #[.slice A n c, .int .i64 0, .bool false] 48) := ⟨_, rfl⟩
    have hVr : RefR V w2.heap.size A n c 0 false := by rw [hV]; exact heap_alloc_new w2 _
    have hVb : Below w2.heap.size w2 V := by rw [hV]; exact below1 _ _
    have hVg : Rdr V g ⟨l, false⟩ := Rdr.below G2.out (Rdr.lt G2.out) hVb
    have hgl := Rdr.lt G2.out
    have QV := Lib.hid hVr
    have GV := Lib.hid hVg
    have BV := Lib.hid (BW2.out.trans (hVb.mono BW2.out.size))
    obtain ⟨q5, hq5⟩ : ∃ q5, q5 = w2.heap.size := ⟨_, rfl⟩
    have hq5l : g < q5 := by omega
    have hsz1 := BW2.out.size
    have hq5w : w1.heap.size ≤ q5 := by omega
    try rw [← hV]
    try rw [← hq5]
    rw [← hq5] at QV
    clear hV hVr hVb hVg hq5 hgl hsz1 BW2 G2
    refine (CR.out _ _ GV.out).mono ?_
    rintro e w3 ⟨rfl, hR3, hg3⟩
    have G3 := Lib.hid hR3
    have Q3 := Lib.hid (QV.out.kept hg3 (fun e => by have := Option.some.inj e; omega))
    have BW3 := Lib.hid (BV.out.grown hg3 BV.out.size (fun k e => by cases e; exact hg))
    clear hR3 hg3 QV GV BV
    go_wp2_with (fail)
    have hd3 := (HD.out.below B1.out).more (B' := w1.heap.size) B1.out.size
    refine (CRR.out w1.heap.size q5 _ Q3.out (hd3.below BW3.out) hq5w).mono ?_
    rintro e w4 ⟨rfl, a, bb, hQ4, ha, hst, hg4⟩
    have hbb : bb = sf.bad := by rw [← hst]; unfold refSt; cases bb <;> rfl
    have CRL := Lib.hid (fun W (hW : RefR W q5 A n c a bb) => CRLEFT0.out W q5 a bb hst ha hW)
    rw [hbb] at CRL hQ4
    have Q4 := Lib.hid hQ4
    have G4 := Lib.hid (G3.out.kept hg4 (fun e => by have := Option.some.inj e; omega))
    have BW4 := Lib.hid (BW3.out.grown hg4 BW3.out.size (fun k e => by cases e; exact hq5w))
    clear hd3 hbb hst hQ4 hg4 Q3 G3 BW3 CRLEFT0 CRR CR
    go_wp2_with (first
      | (refine tabA.wpNew (o := ⟨some 8, _, _, _, _, _⟩) rfl rfl ?_; intro W5 b8 hN; obtain ⟨hb8, hr8, hl8, hz8⟩ := hN)
      | (refine tabB.wpNew (o := ⟨some 9, _, _, _, _, _⟩) rfl rfl ?_; intro W6 b9 hN; obtain ⟨hb9, hr9, hl9, hz9⟩ := hN
         have f8 := Lib.hid (row_below hr8.out hl9)
         have lt89 : b8 < b9 := by have := hb9.out; have := hz8.out; omega)
      | (refine tabA.wpStore rfl (.tmp 8) (.tmp 23) rfl rfl rfl f8.out rfl HUT.out ?_; intro W7 k8 hg7 hz7
         have k9 := Lib.hid (row_far hr9.out hg7 (fun e => by have := Option.some.inj e; omega)))
      | (refine tabB.wpStore rfl (.tmp 9) (.tmp 25) rfl rfl rfl k9.out rfl HUT.out ?_; intro W8 m9 hg8 hz8'
         have m8 := Lib.hid (row_far k8.out hg8 (fun e => by have := Option.some.inj e; omega))
         have BX8 : Hid (Below w1.heap.size w1 W8) := Lib.hid ((((BW4.out.trans (hl8.mono BW4.out.size)).trans (hl9.mono (Nat.le_trans BW4.out.size hl8.size))).grown hg7 (Nat.le_trans BW4.out.size (Nat.le_trans hl8.size hl9.size)) (fun k e => by cases e; have := hb8.out; have := BW4.out.size; omega)).grown hg8 (by have := BW4.out.size; have := hl8.size; have := hl9.size; have := hz7.out; omega) (fun k e => by cases e; have := hb8.out; have := BW4.out.size; omega))
         have hsx : w4.heap.size ≤ W8.heap.size := by have := hl8.size; have := hl9.size; have := hz7.out; have := hz8'.out; omega
         have G8 := Lib.hid (Rdr.kept (Rdr.kept (Rdr.below (Rdr.below G4.out (Rdr.lt G4.out) hl8) (Nat.lt_of_lt_of_le (Rdr.lt G4.out) hl8.size) hl9) hg7 (fun e => by have := Option.some.inj e; have := hb8.out; have := Rdr.lt G4.out; omega)) hg8 (fun e => by have := Option.some.inj e; have := hb8.out; have := Rdr.lt G4.out; omega))
         have Q8 := Lib.hid (RefR.kept (RefR.kept (RefR.below (RefR.below Q4.out (RefR.lt Q4.out) hl8) (Nat.lt_of_lt_of_le (RefR.lt Q4.out) hl8.size) hl9) hg7 (fun e => by have := Option.some.inj e; have := hb8.out; have := RefR.lt Q4.out; omega)) hg8 (fun e => by have := Option.some.inj e; have := hb8.out; have := RefR.lt Q4.out; omega)))
      | (refine wpL_app (m := 80) (y := .slice A1 80 c1) rfl (.tmp 26) (.tmp 27) _ _ rfl E_u8 rfl rfl (World.ownsRow_lit (base := W8.heap.size) W8 #[] 0 (Nat.le_refl _) (Nat.zero_le _) rfl) ((X1.out.below (BX8.out.alloc BX8.out.size _)).src Try.underlying42 (u8s_one _)) (by unfold maxLen; omega) (by omega) (by simp) ?_; intro v2 w5 hown2 hg5 hat2
         have Y5 : Hid (Below W8.heap.size W8 w5) := Lib.hid ((below1 W8 _).grown hg5 (by simp) (fun k e => by cases e; exact Nat.le_refl _))
         obtain ⟨A2, c2, rfl⟩ := ownsRow_form hown2
         have O5 := Lib.hid hown2
         clear hown2 hg5 hat2)
      | (refine wpL_app (m := n) (y := .slice A n c) rfl (.tmp 28) (.tmp 29) _ _ rfl E_u8 rfl rfl O5.out ((HD.out.below ((B1.out.trans (BX8.out.mono B1.out.size)).trans (Y5.out.mono (Nat.le_trans B1.out.size BX8.out.size)))).src Try.underlying42 (u8s_one _)) (by unfold maxLen; omega) (by omega) Y5.out.size ?_; intro v3 w6 hown3 hg6 hat3
         have Y6 : Hid (Below W8.heap.size W8 w6) := Lib.hid (Y5.out.grown hg6 Y5.out.size (fun k e => (O5.out.lt k e).1))
         obtain ⟨A3, c3, rfl⟩ := ownsRow_form hown3
         have O6 := Lib.hid (ownsRow_rd hown3)
         clear hown3 hg6 hat3)
      | fail)
    clear f8 hr8 hl8 hz8 hr9 hl9 hz9 k8 k9 hg7 hg8 hz7 hz8' G4 Q4 BW4
    have o6 := O6.out
    rw [show ([] : List Value) ++ u8s (encT T) ++ u8s l = u8s (encT T ++ l) by rw [List.nil_append, u8s_app]] at o6
    refine (read_any _ _ _ _ _ o6 (by omega)).mono ?_
    rintro e w7 ⟨gx, rfl, hgx, hRx, hb7⟩
    have GX := Lib.hid hRx
    have Y7 := Lib.hid (Y6.out.trans (hb7.mono Y6.out.size))
    have hgx8 : W8.heap.size ≤ gx := Nat.le_trans Y6.out.size hgx
    clear o6 hRx hb7 hgx Y5 Y6 O5 O6
    go_wp2_with (fail)
    refine (CRX.out _ _ GX.out).mono ?_
    rintro e w8 ⟨rfl, _, hg8x⟩
    have Y8 := Lib.hid (Y7.out.grown hg8x Y7.out.size (fun k e => by cases e; exact hgx8))
    clear hg8x Y7 GX
    go_wp2_with (first
      | (refine tabA.wpNew (o := ⟨some 10, _, _, _, _, _⟩) rfl rfl ?_; intro W10 b10 hN; obtain ⟨hb10, hr10, hl10, hz10⟩ := hN)
      | (refine tabA.wpStore rfl (.tmp 10) (.tmp 32) rfl rfl rfl hr10.out rfl HT.out ?_; intro w9 R10 hg10 hz10'
         have Y9 := Lib.hid ((Y8.out.trans (hl10.mono Y8.out.size)).grown hg10 (Nat.le_trans Y8.out.size hl10.size) (fun k e => by cases e; have := hb10.out; have := Y8.out.size; omega)))
      | fail)
    have L10 := Lib.hid (Array.getElem?_eq_some_iff.1 R10.out).1
    have hl8 := (Array.getElem?_eq_some_iff.1 m8.out).1
    have hl9 := (Array.getElem?_eq_some_iff.1 m9.out).1
    have hl2 := (Array.getElem?_eq_some_iff.1 e2.out).1
    have R8 := Lib.hid ((Y9.out.block b8 hl8).trans m8.out)
    have R9 := Lib.hid ((Y9.out.block b9 hl9).trans m9.out)
    have BB9 := Lib.hid (BX8.out.trans (Y9.out.mono BX8.out.size))
    have R2 := Lib.hid ((BB9.out.block b2 hl2).trans e2.out)
    have GR := Lib.hid (Rdr.below G8.out (Rdr.lt G8.out) Y9.out)
    have QR := Lib.hid (RefR.below Q8.out (RefR.lt Q8.out) Y9.out)
    have L8 := Lib.hid (Array.getElem?_eq_some_iff.1 R8.out).1
    have L9 := Lib.hid (Array.getElem?_eq_some_iff.1 R9.out).1
    have L2 := Lib.hid (Array.getElem?_eq_some_iff.1 R2.out).1
    have GL := Lib.hid (Rdr.lt GR.out)
    have QL := Lib.hid (RefR.lt QR.out)
    have RX := Lib.hid ((X1.out.below BB9.out).more (B' := w9.heap.size) BB9.out.size)
    have BALL := Lib.hid (B1.out.trans (BB9.out.mono B1.out.size))
    have CBAD := Lib.hid (fun W hW => CBAD0.out W g hW)
    have CLEFT := Lib.hid (fun W hW => CLEFT0.out W g hW)
    have CRLEFT := Lib.hid (fun W hW => CRL.out W hW)
    clear hr10 hl10 hz10 hg10 hz10' hl8 hl9 hl2 m8 m9 G8 Q8 Y8 Y9 hgx8 CBAD0 CLEFT0 CRL BX8 hsx
    refine wp_low w9.heap.size [([0, 1, 2], 3), ([], 4), ([5, 6, 7, 8, 10], 9), ([11, 12, 13, 14, 16, 17, 18, 19], 15), ([20, 21, 22, 23, 25], 24), ([], 26), ([27, 28, 29, 30, 31, 32, 33, 34], 35)] [36, 37] (by kernel_rfl) (by kernel_rfl) (fun d _ _ _ _ h => by cases d <;> exact h) (Nat.le_refl _) fun wd hbd => ?_
    intro q hq
    have d2 : ∀ z, (q z).cell? ⟨q5, 2, none⟩ = some (.bool sf.bad) := fun z => ((hq z).cell (p := ⟨q5, 2, none⟩) QL.out).trans (cell_of_row _ q5 2 _ _ _ QR.out)
    simp only [pickI, Option.toList_some, List.cons_append, List.nil_append, List.getElem?_toArray, List.getElem?_cons_succ, List.getElem?_cons_zero]
    try go_frame
    go_big_quiet_step (fail)
    refine wpQ_conv rfl _ _ (.tmp 33) rfl rfl (fun W hW => by obtain ⟨z, rfl⟩ := hW; exact run_str Try.underlying42 Try.underlying5 Try.underlying9 (RX.out.below (hq z))) ?_
    go_frame
    refine tabA.wpQload (by rfl) (.tmp 2) rfl rfl (fun W hW => by obtain ⟨z, rfl⟩ := hW; exact ((hq z).block b2 L2.out).trans R2.out) HT.out ?_
    go_frame
    refine wpQuiet_nil ?_
    clear hq q d2
    refine seg_op (by simp only [List.getElem?_toArray, List.getElem?_cons_succ, List.getElem?_cons_zero]; rfl) fun K hK => ?_
    go_simp
    refine (CP.out _).mono ?_
    rintro e v0 ⟨rfl, bv0⟩
    have zv0 := hbd.trans (bv0.mono hbd.size)
    have zs0 := zv0
    refine hK.out _ _ (seg_keep zs0 ?_)
    clear hK K
    intro q hq
    refine wpQuiet_nil ?_
    clear hq q
    refine seg_op (by simp only [List.getElem?_toArray, List.getElem?_cons_succ, List.getElem?_cons_zero]; rfl) fun K hK => ?_
    go_simp
    refine (CRB.out _).mono ?_
    rintro e v1 ⟨vy, rfl, howny, bv1⟩
    obtain ⟨Ay, cy, rfl⟩ := ownsRow_form howny
    have RY := Lib.hid (ownsRow_rd howny)
    clear howny
    have zv1 := zv0.trans (bv1.mono zv0.size)
    have zs1 := zv1
    
    refine hK.out _ _ ⟨fun x => Below v1.heap.size v1 x, Below.refl _ _, fun x hx => zs1.trans (hx.mono zs1.size), ?_⟩
    clear hK K
    intro q hq
    have d2 : ∀ z, (q z).cell? ⟨q5, 2, none⟩ = some (.bool sf.bad) := fun z => ((hq z).cell (p := ⟨q5, 2, none⟩) (Nat.lt_of_lt_of_le QL.out zv1.size)).trans ((zv1.cell (p := ⟨q5, 2, none⟩) QL.out).trans (cell_of_row _ q5 2 _ _ _ QR.out))
    simp only [pickI, Option.toList_some, List.cons_append, List.nil_append, List.getElem?_toArray, List.getElem?_cons_succ, List.getElem?_cons_zero]
    try go_frame
    refine wpQ_conv rfl _ _ (.tmp 37) rfl rfl (fun W hW => by obtain ⟨z, rfl⟩ := hW; exact run_str Try.underlying42 Try.underlying5 Try.underlying9 (RY.out.below (hq z))) ?_
    go_frame
    go_big_quiet_step (fail)
    go_big_quiet_step (fail)
    refine tabA.wpQload (by rfl) (.tmp 8) rfl rfl (fun W hW => by obtain ⟨z, rfl⟩ := hW; exact ((hq z).block b8 (Nat.lt_of_lt_of_le L8.out zv1.size)).trans ((zv1.block b8 L8.out).trans R8.out)) HUT.out ?_
    go_frame
    refine tabB.wpQload (by rfl) (.tmp 9) rfl rfl (fun W hW => by obtain ⟨z, rfl⟩ := hW; exact ((hq z).block b9 (Nat.lt_of_lt_of_le L9.out zv1.size)).trans ((zv1.block b9 L9.out).trans R9.out)) HUT.out ?_
    go_frame
    refine wpQuiet_nil ?_
    clear hq q d2
    refine seg_op (by simp only [List.getElem?_toArray, List.getElem?_cons_succ, List.getElem?_cons_zero]; rfl) fun K hK => ?_
    go_simp
    refine (CPU.out _).mono ?_
    rintro e v2 ⟨rfl, bv2⟩
    have zv2 := zv1.trans (bv2.mono zv1.size)
    have zs2 := bv2
    refine hK.out _ _ (seg_keep zs2 ?_)
    clear hK K
    intro q hq
    have d2 : ∀ z, (q z).cell? ⟨q5, 2, none⟩ = some (.bool sf.bad) := fun z => ((hq z).cell (p := ⟨q5, 2, none⟩) (Nat.lt_of_lt_of_le QL.out zv1.size)).trans ((zv1.cell (p := ⟨q5, 2, none⟩) QL.out).trans (cell_of_row _ q5 2 _ _ _ QR.out))
    simp only [pickI, Option.toList_some, List.cons_append, List.nil_append, List.getElem?_toArray, List.getElem?_cons_succ, List.getElem?_cons_zero]
    try go_frame
    refine tabB.wpQeql (by rfl) (.tmp 42) (.tmp 43) _ rfl rfl rfl HUT.out HUT.out (b := true) (by simp) ?_
    go_frame
    go_big_quiet_step (fail)
    go_big_quiet_step (fail)
    go_big_quiet_step (fail)
    go_big_quiet_step (fail)
    go_big_quiet_step (fail)
    go_big_quiet_step (fail)
    go_big_quiet_step (fail)
    refine wpQuiet_nil ?_
    clear hq q d2
    refine seg_op (by simp only [List.getElem?_toArray, List.getElem?_cons_succ, List.getElem?_cons_zero]; rfl) fun K hK => ?_
    go_simp
    refine (CBAD.out _ (Rdr.below GR.out GL.out zv2)).mono ?_
    rintro e v3 ⟨rfl, bv3⟩
    have zv3 := zv2.trans (bv3.mono zv2.size)
    have zs3 := zs2.trans (bv3.mono zs2.size)
    refine hK.out _ _ (seg_keep zs3 ?_)
    clear hK K
    intro q hq
    have d2 : ∀ z, (q z).cell? ⟨q5, 2, none⟩ = some (.bool sf.bad) := fun z => ((hq z).cell (p := ⟨q5, 2, none⟩) (Nat.lt_of_lt_of_le QL.out zv1.size)).trans ((zv1.cell (p := ⟨q5, 2, none⟩) QL.out).trans (cell_of_row _ q5 2 _ _ _ QR.out))
    simp only [pickI, Option.toList_some, List.cons_append, List.nil_append, List.getElem?_toArray, List.getElem?_cons_succ, List.getElem?_cons_zero]
    try go_frame
    go_big_quiet_step (fail)
    go_big_quiet_step (fail)
    go_big_quiet_step (fail)
    go_big_quiet_step (fail)
    go_big_quiet_step (fail)
    refine wpQuiet_nil ?_
    clear hq q d2
    refine seg_op (by simp only [List.getElem?_toArray, List.getElem?_cons_succ, List.getElem?_cons_zero]; rfl) fun K hK => ?_
    go_simp
    refine (CLEFT.out _ (Rdr.below GR.out GL.out zv3)).mono ?_
    rintro e v4 ⟨rfl, bv4⟩
    have zv4 := zv3.trans (bv4.mono zv3.size)
    have zs4 := zs3.trans (bv4.mono zs3.size)
    refine hK.out _ _ (seg_keep zs4 ?_)
    clear hK K
    intro q hq
    refine wpQuiet_nil ?_
    clear hq q
    refine seg_op (by simp only [List.getElem?_toArray, List.getElem?_cons_succ, List.getElem?_cons_zero]; rfl) fun K hK => ?_
    go_simp
    refine (CRLEFT.out _ (RefR.below QR.out QL.out zv4)).mono ?_
    rintro e v5 ⟨rfl, bv5⟩
    have zv5 := zv4.trans (bv5.mono zv4.size)
    have zs5 := zs4.trans (bv5.mono zs4.size)
    refine hK.out _ _ (seg_keep zs5 ?_)
    clear hK K
    intro q hq
    have d2 : ∀ z, (q z).cell? ⟨q5, 2, none⟩ = some (.bool sf.bad) := fun z => ((hq z).cell (p := ⟨q5, 2, none⟩) (Nat.lt_of_lt_of_le QL.out zv1.size)).trans ((zv1.cell (p := ⟨q5, 2, none⟩) QL.out).trans (cell_of_row _ q5 2 _ _ _ QR.out))
    simp only [pickI, Option.toList_some, List.cons_append, List.nil_append, List.getElem?_toArray, List.getElem?_cons_succ, List.getElem?_cons_zero]
    try go_frame
    go_big_quiet_step (fail)
    go_big_quiet_step (fail)
    go_big_quiet_step (fail)
    refine tabA.wpQload (by rfl) (.tmp 10) rfl rfl (fun W hW => by obtain ⟨z, rfl⟩ := hW; exact ((hq z).block b10 (Nat.lt_of_lt_of_le L10.out zv1.size)).trans ((zv1.block b10 L10.out).trans R10.out)) HT.out ?_
    go_frame
    refine tabA.wpQload (by rfl) (.tmp 2) rfl rfl (fun W hW => by obtain ⟨z, rfl⟩ := hW; exact ((hq z).block b2 (Nat.lt_of_lt_of_le L2.out zv1.size)).trans ((zv1.block b2 L2.out).trans R2.out)) HT.out ?_
    go_frame
    refine tabA.wpQeql (by rfl) (.tmp 63) (.tmp 64) _ rfl rfl rfl HT.out HT.out (b := true) (by simp) ?_
    go_frame
    go_big_quiet_step (fail)
    go_big_quiet_step (fail)
    refine wpQuiet_nil ?_
    clear hq q d2
    refine seg_op (by simp only [List.getElem?_toArray, List.getElem?_cons_succ, List.getElem?_cons_zero]; rfl) fun K hK => ?_
    go_simp
    refine (lives14 _).mono ?_
    rintro e v6 ⟨rfl, bv6⟩
    have zv6 := zv5.trans (bv6.mono zv5.size)
    have zs6 := zs5.trans (bv6.mono zs5.size)
    refine hK.out _ _ (seg_keep zs6 ?_)
    clear hK K
    intro q hq
    have d2 : ∀ z, (q z).cell? ⟨q5, 2, none⟩ = some (.bool sf.bad) := fun z => ((hq z).cell (p := ⟨q5, 2, none⟩) (Nat.lt_of_lt_of_le QL.out zv1.size)).trans ((zv1.cell (p := ⟨q5, 2, none⟩) QL.out).trans (cell_of_row _ q5 2 _ _ _ QR.out))
    simp only [pickI, Option.toList_some, List.cons_append, List.nil_append, List.getElem?_toArray, List.getElem?_cons_succ, List.getElem?_cons_zero]
    try go_frame
    go_big_quiet_step (fail)
    go_big_quiet_step (fail)
    refine wpQuiet_nil ?_
    clear hq q d2
    go_wp2
    go_ret
    exact ⟨rfl, BALL.out.trans (zv6.mono BALL.out.size)⟩
theorem doneBytes_walk {w : World} (T : List Cl) (hT : Tok T) (A : Option Addr) (n c : Nat) (l : List UInt8) (h : Rd w w.heap.size 1 A n c (u8s l)) :
    Calls Try.prog 5 #[tbv T, .slice A n c] w fun e w' => e = .returned (.bool true) ∧ Below w.heap.size w w' := doneBytes_at T A n c l w hT h

namespace doneBytes
open Go.ChangeShapes Go.WideShapes Go.ChangeAt
set_option maxRecDepth 100000 in
theorem lifted (os : Os) (started : os.Started) (H : Type) (enc : TypeId × Value → H) :
    ReturnsInHanded {} Try.checked os 5 .any (Rows.doneBytesSpec.pre6 enc Try.prog Try.f5 Rows.doneBytesRow.domain false) (Rows.doneBytesSpec.post enc Try.prog Try.f5 false true false false) := by
  refine returnsInHanded_of_change (C := Try.checked) own started (by kernel_rfl) Try.func5
    (ChangeSpec.witness6 (enc := enc) (C := Try.checked) false ⟨#[], #[.agg #[.int .u64 0, .int .u16 0, .int .u64 0, .int .u16 0, .int .u64 0, .int .u16 0, .int .u64 0, .int .u16 0, .int .u64 0, .int .u16 0, .int .u64 0, .int .u16 0, .int .u64 0, .int .u16 0, .int .u64 0, .int .u16 0], .slice none 0 0], []⟩ 8 (by kernel_rfl) (by kernel_rfl) (by kernel_rfl) (by kernel_rfl)) ?_
  intro W base args ds gs before hval0 hW _ _
  have hval : ∀ (j : Nat) t v, Try.f5.params[j]? = some t → args[j]? = some v → Value.okWide Try.prog W .any base t v := hval0
  have hW' := hW
  obtain ⟨p, q, hA0, hV, rfl, hfz, hnd⟩ := hW
  have hA : DataW.TrodAll enc Try.prog W 0 (fun _ => true) true Try.f5.params.toList args.toList ds p := hA0
  rw [Try.params5] at hA hval
  obtain ⟨v0, vs0, d0, ds0, p0, q0, hargs, rfl, rfl, h0, r0⟩ := trodAll_cons hA
  obtain ⟨v1, vs1, d1, ds1, p1, q1, rfl, rfl, rfl, h1, r1⟩ := trodAll_cons r0
  obtain ⟨rfl, rfl, rfl⟩ := trodAll_nil r1
  obtain rfl : args = #[v0, v1] := by cases args; simp_all
  obtain ⟨rfl, rfl⟩ := trodVars_none hV
  have k0 := h0
  have lt0 : ∀ x ∈ p0, x.block < W.heap.size := by obtain ⟨m, hm⟩ := k0; exact DataW.trod_lt m _ _ _ hm
  obtain ⟨o0, rfl, w0⟩ := dec_table tabA (by kernel_rfl) (by kernel_rfl) cl_one (hval 0 27 v0 rfl rfl) h0
  have k1 := h1
  have lt1 : ∀ x ∈ p1, x.block < W.heap.size := by obtain ⟨m, hm⟩ := k1; exact DataW.trod_lt m _ _ _ hm
  obtain ⟨a1, n1, c1, l1, rfl, w1⟩ := dec_bytes Try.underlying42 Try.underlying5 (by kernel_rfl) (hval 1 42 v1 rfl rfl) h1
  clear hA0 hval0
  refine (doneBytes_walk o0 w0 a1 n1 c1 l1 w1).mono fun e W' ⟨he, bel⟩ => ?_
  subst he
  exact ⟨_, rfl, _, _, _, [], _, [], hW', trodAll_mk1 (shut_bool Try.underlying4 _), (trodAll_cons_mk (Below.trod laidOut (by kernel_rfl) (of_decide_eq_true (by kernel_rfl)) k0 bel lt0) (trodAll_cons_mk (Below.trod laidOut (by kernel_rfl) (of_decide_eq_true (by kernel_rfl)) k1 bel lt1) trodAll_mk0)), rfl, bel.frame _, fun h => by cases h⟩

theorem over : Rows.doneBytesRow.holds Try.pinned (OpenSpec.ofChange Rows.doneBytesSpec) :=
  OpenClaim.holds_of_wide 5 Try.f5 rfl rfl rfl rfl rfl rfl rfl ⟨rfl, rfl, rfl, rfl, rfl⟩ rfl rfl rfl rfl rfl (by kernel_rfl) Try.func5 (by kernel_rfl)
    (of_decide_eq_true (by kernel_rfl)) (by unfold Func.isWrapper; first | (rw [if_pos (by decide +kernel)]; kernel_rfl) | (rw [if_neg (by decide +kernel)]; exact ⟨rfl, rfl⟩))
    (fun os started H enc _ => lifted os started H enc)
/-- The given statement. -/
theorem proved : Rows.DoneBytesSaid := over
end doneBytes

end Go.Proofs.Ytlbjbkhnicbibaa
