/- Blocks are read, all that a span names. Data is cut into blocks. -/
import Derived.Test.YtgbbbemedncdoaaGreatDoorSrdM
import Derived.Test.YtgbbbemedncdoaaGreatDoorStaM
namespace Go.Proofs.YtgbbbemedncdoaaGreatDoor
open Go.RowKit
set_option maxRecDepth 20000

/-- Where blocks stand lies on the device, behind the twin. -/
structure FitsS (d : Dv) (v : Sv) (fn : SaysS) : Prop where
  reach : Reaches d v.first fn
  pos : 0 ≤ v.first
  top : v.first ≤ d.n
  few : v.n ≤ 65536

theorem Slx.below {X : Nat → Prop} {w W0 W : World} {B g T S bn bs M kn ks : Nat} {d : Dv} {t : Tv} {v : Sv} {fn fs : SaysS} (h : Slx X w W0 B g T S bn bs M kn ks d t v fn fs) (hW : Below W0.heap.size W0 W) : Slx X w W B g T S bn bs M kn ks d t v fn fs :=
  ⟨h.tlx.below hW, h.row.below hW, h.now.kept (only_of_below hW none) (fun e => by cases e), h.saved.kept (only_of_below hW none) (fun e => by cases e), h.new, h.apart⟩
theorem sread_any {X : Nat → Prop} {w W0 : World} {B g T S bn bs M kn ks : Nat} {d : Dv} {t : Tv} {v : Sv} {fn fs : SaysS} (h : Slx X w W0 B g T S bn bs M kn ks d t v fn fs) (hf : FitsS d v fn) (hd : d.down = false) (n : Nat) (hn : n < 4294967296) :
    Calls Tryz.prog 58 #[.pointer (some ⟨S, 0, none⟩), .int .u32 (n : Int)] W0 fun e w' => e = .returned (.tuple #[blkv (d.blk v.first fn n), .int .i64 0]) ∧ Below W0.heap.size W0 w' := by
  cases hx : fn n with
  | some x => exact sread_some h hd n hn x hx hf.reach
  | none => exact sread_none h hd n hn hx hf.pos hf.top
theorem sread_dn {X : Nat → Prop} {w W0 : World} {B g T S bn bs M kn ks : Nat} {d : Dv} {t : Tv} {v : Sv} {fn fs : SaysS} (h : Slx X w W0 B g T S bn bs M kn ks d t v fn fs) (hf : FitsS d v fn) (hd : d.down = true) (n : Nat) (hn : n < 4294967296) :
    Calls Tryz.prog 58 #[.pointer (some ⟨S, 0, none⟩), .int .u32 (n : Int)] W0 fun e w' => e = .returned (.tuple #[blkv Zb, .int .i64 50]) ∧ Below W0.heap.size W0 w' :=
  sread_down h hd n hn hf.reach hf.pos hf.top

/-- Blocks from one on, as text. -/
def Dv.blks (d : Dv) (first : Int) (f : SaysS) (x : Nat) : Nat → List UInt8
  | 0 => []
  | i + 1 => d.blks first f x i ++ d.blk first f ((x + i : Nat) : Int)

def spanv (f c : Nat) : Value := .agg #[.int .u32 (f : Int), .int .u32 (c : Int)]
set_option maxHeartbeats 2000000 in
theorem sReads_nil (f c : Nat) (w : World) : Calls Tryz.prog 25 #[.pointer none, spanv f c] w fun e w' => e = .returned (.tuple #[.string ⟨#[]⟩, .int .i64 1]) ∧ Below w.heap.size w w' := by
  unfold spanv
  go_enter Tryz.func25, Tryz.ntmps25
  go_wp2_with (go_at_call 48; refine (sopen_nil _).mono ?_; rintro e w1 ⟨rfl, rfl⟩)
  go_ret2
  exact ⟨rfl, (Below.refl _ _).alloc (Nat.le_refl _) _⟩
set_option maxHeartbeats 4000000 in
theorem sReads_range {X : Nat → Prop} {w W0 : World} {B g T S bn bs M kn ks : Nat} {d : Dv} {t : Tv} {v : Sv} {fn fs : SaysS} (h : Slx X w W0 B g T S bn bs M kn ks d t v fn fs) (hf : FitsS d v fn) (f c : Nat) (hfc : f < 4294967296) (hc : c < 4294967296) (hspan : ¬ (0 < c ∧ f + c ≤ v.n)) :
    Calls Tryz.prog 25 #[.pointer (some ⟨S, 0, none⟩), spanv f c] W0 fun e w' => e = .returned (.tuple #[.string ⟨#[]⟩, .int .i64 30]) ∧ Below W0.heap.size W0 w' := by
  have hvn := hf.few
  have HS := Lib.hid h
  have HF := Lib.hid hf
  have HG := Lib.hid (fun W => spgood_any f c v.n W hfc hc (by omega))
  rw [show decide (0 < c ∧ f + c ≤ v.n) = false from by simpa using hspan] at HG
  clear h hf
  unfold spanv
  go_enter Tryz.func25, Tryz.ntmps25
  have HA := Lib.hid (fun o => (Below.refl W0.heap.size W0).alloc (Nat.le_refl _) o)
  go_wp2_with (first
    | (go_at_call 48; refine (sopen_any (HS.out.row.below (HA.out _))).mono ?_; rintro e w1 ⟨rfl, rfl⟩)
    | fail)
  have hbW := HA.out (.cells #[.int .u32 (f : Int), .int .u32 (c : Int)] 25)
  have s0 : (W0.alloc (.cells #[.int .u32 (f : Int), .int .u32 (c : Int)] 25)).cell? ⟨W0.heap.size, 0, none⟩ = some (.int .u32 (f : Int)) := cell_of_row _ _ 0 _ _ _ (newR W0 25 [.int .u32 (f : Int), .int .u32 (c : Int)]).2.1.out
  have s1 : (W0.alloc (.cells #[.int .u32 (f : Int), .int .u32 (c : Int)] 25)).cell? ⟨W0.heap.size, 1, none⟩ = some (.int .u32 (c : Int)) := cell_of_row _ _ 1 _ _ _ (newR W0 25 [.int .u32 (f : Int), .int .u32 (c : Int)]).2.1.out
  have hRW : W0.heap.size < (W0.alloc (.cells #[.int .u32 (f : Int), .int .u32 (c : Int)] 25)).heap.size := by simp
  generalize (W0.alloc (.cells #[.int .u32 (f : Int), .int .u32 (c : Int)] 25)) = W at *
  have HSW := Lib.hid (HS.out.below hbW)
  have HBW := Lib.hid hbW
  have c3 := HSW.out.row.c3
  have hSW : S < W.heap.size := HSW.out.row.lt
  clear HS HA hbW
  refine wp_low W.heap.size [([0, 1, 2, 3, 4], 5)] [6, 7] (by kernel_rfl) (by kernel_rfl) (fun d _ _ _ _ h => by cases d <;> exact h) (Nat.le_refl _) fun wd hbd => ?_
  intro q hq
  have d3 := fun z => kept (hq z) c3 hSW
  have e0 := fun z => kept (hq z) s0 hRW
  have e1 := fun z => kept (hq z) s1 hRW
  simp only [pickI, Option.toList_some, List.cons_append, List.nil_append, List.getElem?_toArray, List.getElem?_cons_succ, List.getElem?_cons_zero]
  try go_frame
  go_big_quiet_step (fail)
  go_big_quiet_step (fail)
  go_big_quiet_step (fail)
  go_big_quiet_step (fail)
  go_big_quiet_step (fail)
  refine wpQuiet_nil ?_
  clear hq q d3 e0 e1
  refine seg_op (by simp only [List.getElem?_toArray, List.getElem?_cons_succ, List.getElem?_cons_zero]; rfl) fun K hK => ?_
  go_simp
  refine (HG.out _).mono ?_
  rintro e v0 ⟨rfl, bv0⟩
  have zv0 := hbd.trans (bv0.mono hbd.size)
  refine hK.out _ _ (seg_keep zv0 ?_)
  clear hK K
  intro q hq
  have d3 := fun z => kept (hq z) c3 hSW
  have e0 := fun z => kept (hq z) s0 hRW
  have e1 := fun z => kept (hq z) s1 hRW
  simp only [pickI, Option.toList_some, List.cons_append, List.nil_append, List.getElem?_toArray, List.getElem?_cons_succ, List.getElem?_cons_zero]
  try go_frame
  go_big_quiet_step (fail)
  go_big_quiet_step (fail)
  refine wpQuiet_nil ?_
  clear hq q d3 e0 e1
  clear c3 s0 s1
  go_wp2
  go_ret2
  exact ⟨rfl, HBW.out.trans (zv0.mono HBW.out.size)⟩
set_option maxHeartbeats 4000000 in
theorem sReads_good {X : Nat → Prop} {w W0 : World} {B g T S bn bs M kn ks : Nat} {d : Dv} {t : Tv} {v : Sv} {fn fs : SaysS} (h : Slx X w W0 B g T S bn bs M kn ks d t v fn fs) (hf : FitsS d v fn) (f c : Nat) (hfc : f < 4294967296) (hc : c < 4294967296) (hspan : 0 < c ∧ f + c ≤ v.n) (hd : d.down = false) :
    Calls Tryz.prog 25 #[.pointer (some ⟨S, 0, none⟩), spanv f c] W0 fun e w' => e = .returned (.tuple #[.string (str (d.blks v.first fn f c)), .int .i64 0]) ∧ Below W0.heap.size W0 w' := by
  have hvn := hf.few
  have HS := Lib.hid h
  have HF := Lib.hid hf
  have HG := Lib.hid (fun W => spgood_any f c v.n W hfc hc (by omega))
  rw [show decide (0 < c ∧ f + c ≤ v.n) = true from by simpa using hspan] at HG
  clear h hf
  unfold spanv
  go_enter Tryz.func25, Tryz.ntmps25
  have HA := Lib.hid (fun o => (Below.refl W0.heap.size W0).alloc (Nat.le_refl _) o)
  go_wp2_with (first
    | (go_at_call 48; refine (sopen_any (HS.out.row.below (HA.out _))).mono ?_; rintro e w1 ⟨rfl, rfl⟩)
    | fail)
  have hbW := HA.out (.cells #[.int .u32 (f : Int), .int .u32 (c : Int)] 25)
  have s0 : (W0.alloc (.cells #[.int .u32 (f : Int), .int .u32 (c : Int)] 25)).cell? ⟨W0.heap.size, 0, none⟩ = some (.int .u32 (f : Int)) := cell_of_row _ _ 0 _ _ _ (newR W0 25 [.int .u32 (f : Int), .int .u32 (c : Int)]).2.1.out
  have s1 : (W0.alloc (.cells #[.int .u32 (f : Int), .int .u32 (c : Int)] 25)).cell? ⟨W0.heap.size, 1, none⟩ = some (.int .u32 (c : Int)) := cell_of_row _ _ 1 _ _ _ (newR W0 25 [.int .u32 (f : Int), .int .u32 (c : Int)]).2.1.out
  have hRW : W0.heap.size < (W0.alloc (.cells #[.int .u32 (f : Int), .int .u32 (c : Int)] 25)).heap.size := by simp
  generalize (W0.alloc (.cells #[.int .u32 (f : Int), .int .u32 (c : Int)] 25)) = W at *
  have HSW := Lib.hid (HS.out.below hbW)
  have HBW := Lib.hid hbW
  have c3 := HSW.out.row.c3
  have hSW : S < W.heap.size := HSW.out.row.lt
  clear HS HA hbW
  refine wp_low W.heap.size [([0, 1, 2, 3, 4], 5)] [6, 7] (by kernel_rfl) (by kernel_rfl) (fun d _ _ _ _ h => by cases d <;> exact h) (Nat.le_refl _) fun wd hbd => ?_
  intro q hq
  have d3 := fun z => kept (hq z) c3 hSW
  have e0 := fun z => kept (hq z) s0 hRW
  have e1 := fun z => kept (hq z) s1 hRW
  simp only [pickI, Option.toList_some, List.cons_append, List.nil_append, List.getElem?_toArray, List.getElem?_cons_succ, List.getElem?_cons_zero]
  try go_frame
  go_big_quiet_step (fail)
  go_big_quiet_step (fail)
  go_big_quiet_step (fail)
  go_big_quiet_step (fail)
  go_big_quiet_step (fail)
  refine wpQuiet_nil ?_
  clear hq q d3 e0 e1
  refine seg_op (by simp only [List.getElem?_toArray, List.getElem?_cons_succ, List.getElem?_cons_zero]; rfl) fun K hK => ?_
  go_simp
  refine (HG.out _).mono ?_
  rintro e v0 ⟨rfl, bv0⟩
  have zv0 := hbd.trans (bv0.mono hbd.size)
  refine hK.out _ _ (seg_keep zv0 ?_)
  clear hK K
  intro q hq
  have d3 := fun z => kept (hq z) c3 hSW
  have e0 := fun z => kept (hq z) s0 hRW
  have e1 := fun z => kept (hq z) s1 hRW
  simp only [pickI, Option.toList_some, List.cons_append, List.nil_append, List.getElem?_toArray, List.getElem?_cons_succ, List.getElem?_cons_zero]
  try go_frame
  go_big_quiet_step (fail)
  go_big_quiet_step (fail)
  refine wpQuiet_nil ?_
  clear hq q d3 e0 e1
  have k0 := kept zv0 s0 hRW
  have k1 := kept zv0 s1 hRW
  have HV := Lib.hid (HSW.out.below zv0)
  have HBV := Lib.hid (HBW.out.trans (zv0.mono HBW.out.size))
  have hWV : W.heap.size ≤ v0.heap.size := zv0.size
  clear c3 s0 s1 HSW HBW hbd HG
  have hvs := HV.out.row.lt
  go_wp2
  go_loopw [6, 24] (fun vr ir wr => ∃ i : Nat, i ≤ c ∧ ir = .int .u32 (i : Int) ∧ Hid (wr.ownsRow v0.heap.size 5 1 vr (8 * i) (u8s (d.blks v.first fn f i))) ∧ Hid (Below v0.heap.size v0 wr)) (fun _ ir _ => c - (intOf ir).toNat)
  case atStart => exact ⟨0, Nat.zero_le _, rfl, Lib.hid (World.ownsRow_nil _ _ _ _), Lib.hid (Below.refl _ _)⟩
  case round =>
    obtain ⟨i, hi, rfl, RO, RB⟩ := hrel
    obtain ⟨A, cc, rfl⟩ := ownsRow_form RO.out
    by_cases hlt : i < c
    · have q0 := kept RB.out k0 (by omega)
      have hfi : f + i < 4294967296 := by omega
      have HSE := sread_any (HV.out.below RB.out) HF.out hd (f + i) hfi
      have hbl : (d.blk v.first fn ((f + i : Nat) : Int)).length = 8 := Dv.blk_len HV.out.tlx.ok _ _ _
      have hby : d.blks v.first fn f (i + 1) = d.blks v.first fn f i ++ d.blk v.first fn ((f + i : Nat) : Int) := rfl
      have hby0 : (d.blks v.first fn f i).length = 8 * i := by have := (ownsRow_rd RO.out).len; simpa [u8s_len] using this
      generalize d.blk v.first fn ((f + i : Nat) : Int) = s at *
      rw [Int.natCast_add] at HSE
      have HSE := Lib.hid HSE
      have HBL := Lib.hid hbl
      have HBY := Lib.hid hby
      clear hbl hby hby0
      go_wp2_with (first
        | (go_at_call 58; refine HSE.out.mono ?_; rintro e w4 ⟨rfl, hb4⟩
           have hown4 := ownsRow_bel RO.out hb4
           have hb04 := RB.out.trans (hb4.mono RB.out.size))
        | (refine wpL_bnew (o := ⟨some 8, _, _, _, _, _⟩) rfl rfl ?_; intro W5 b5 hN; obtain ⟨hb5, hr5, hl5, hz5⟩ := hN)
        | (refine wpL_bstore rfl (.tmp 8) (.tmp 34) rfl rfl rfl hr5.out rfl HBL.out ?_; intro W6 hr6 hg6 hz6
           have hown6 := (ownsRow_bel hown4 hl5).kept hg6 (by
             rcases hq : Value.ownBlock _ with _ | q
             · exact .inl rfl
             · exact .inr (fun e => by have h1 := (hown4.lt q hq).2; have h2 := Option.some.inj e; have := hb5.out; omega))
           have hz46 : w4.heap.size ≤ W6.heap.size := Nat.le_trans hl5.size hg6.size
           have hb06 : Below v0.heap.size v0 W6 := (hb04.trans (hl5.mono hb04.size)).grown hg6 (Nat.le_trans hb04.size hl5.size) (fun q e => by have := Option.some.inj e; have := hb5.out; have := hb04.size; omega))
        | (at_builtin; refine wpL_app (m := 8) (y := .slice (some ⟨b5, 0, none⟩) 8 8) rfl (.tmp 39) (.tmp 40) _ _ rfl E_by rfl rfl hown6 ((rd_row hr6.out HBL.out (by unfold maxLen; omega)).src Tryz.underlying86 (u8s_one _)) (by unfold maxLen; omega) (by omega) hb06.size ?_; intro v7 w7 hown7 hg7 hat7)
        | fail)
      go_roundw
      case rel => exact ⟨i + 1, by omega, by go_num, Lib.hid (by rw [HBY.out, u8s_app, show 8 * (i + 1) = 8 * i + 8 from by omega]; exact hown7), Lib.hid (hb06.grown hg7 hb06.size (fun q e => (hown6.lt q e).1))⟩
      case measure => simp [intOf]; omega
    · obtain rfl : i = c := by omega
      have hrd := ownsRow_rd RO.out
      go_wp2_with (first
        | (refine wpL_str (o := ⟨some 44, _, _, _, _, _⟩) rfl (.tmp 43) 86 9 rfl Tryz.underlying86 Tryz.underlying5 Tryz.underlying9 rfl hrd ?_)
        | fail)
      go_ret2
      exact ⟨rfl, HBV.out.trans (RB.out.mono HBV.out.size)⟩
set_option maxHeartbeats 4000000 in
theorem sReads_down {X : Nat → Prop} {w W0 : World} {B g T S bn bs M kn ks : Nat} {d : Dv} {t : Tv} {v : Sv} {fn fs : SaysS} (h : Slx X w W0 B g T S bn bs M kn ks d t v fn fs) (hf : FitsS d v fn) (f c : Nat) (hfc : f < 4294967296) (hc : c < 4294967296) (hspan : 0 < c ∧ f + c ≤ v.n) (hd : d.down = true) :
    Calls Tryz.prog 25 #[.pointer (some ⟨S, 0, none⟩), spanv f c] W0 fun e w' => e = .returned (.tuple #[.string ⟨#[]⟩, .int .i64 50]) ∧ Below W0.heap.size W0 w' := by
  have hvn := hf.few
  have HS := Lib.hid h
  have HF := Lib.hid hf
  have HG := Lib.hid (fun W => spgood_any f c v.n W hfc hc (by omega))
  rw [show decide (0 < c ∧ f + c ≤ v.n) = true from by simpa using hspan] at HG
  clear h hf
  unfold spanv
  go_enter Tryz.func25, Tryz.ntmps25
  have HA := Lib.hid (fun o => (Below.refl W0.heap.size W0).alloc (Nat.le_refl _) o)
  go_wp2_with (first
    | (go_at_call 48; refine (sopen_any (HS.out.row.below (HA.out _))).mono ?_; rintro e w1 ⟨rfl, rfl⟩)
    | fail)
  have hbW := HA.out (.cells #[.int .u32 (f : Int), .int .u32 (c : Int)] 25)
  have s0 : (W0.alloc (.cells #[.int .u32 (f : Int), .int .u32 (c : Int)] 25)).cell? ⟨W0.heap.size, 0, none⟩ = some (.int .u32 (f : Int)) := cell_of_row _ _ 0 _ _ _ (newR W0 25 [.int .u32 (f : Int), .int .u32 (c : Int)]).2.1.out
  have s1 : (W0.alloc (.cells #[.int .u32 (f : Int), .int .u32 (c : Int)] 25)).cell? ⟨W0.heap.size, 1, none⟩ = some (.int .u32 (c : Int)) := cell_of_row _ _ 1 _ _ _ (newR W0 25 [.int .u32 (f : Int), .int .u32 (c : Int)]).2.1.out
  have hRW : W0.heap.size < (W0.alloc (.cells #[.int .u32 (f : Int), .int .u32 (c : Int)] 25)).heap.size := by simp
  generalize (W0.alloc (.cells #[.int .u32 (f : Int), .int .u32 (c : Int)] 25)) = W at *
  have HSW := Lib.hid (HS.out.below hbW)
  have HBW := Lib.hid hbW
  have c3 := HSW.out.row.c3
  have hSW : S < W.heap.size := HSW.out.row.lt
  clear HS HA hbW
  refine wp_low W.heap.size [([0, 1, 2, 3, 4], 5)] [6, 7] (by kernel_rfl) (by kernel_rfl) (fun d _ _ _ _ h => by cases d <;> exact h) (Nat.le_refl _) fun wd hbd => ?_
  intro q hq
  have d3 := fun z => kept (hq z) c3 hSW
  have e0 := fun z => kept (hq z) s0 hRW
  have e1 := fun z => kept (hq z) s1 hRW
  simp only [pickI, Option.toList_some, List.cons_append, List.nil_append, List.getElem?_toArray, List.getElem?_cons_succ, List.getElem?_cons_zero]
  try go_frame
  go_big_quiet_step (fail)
  go_big_quiet_step (fail)
  go_big_quiet_step (fail)
  go_big_quiet_step (fail)
  go_big_quiet_step (fail)
  refine wpQuiet_nil ?_
  clear hq q d3 e0 e1
  refine seg_op (by simp only [List.getElem?_toArray, List.getElem?_cons_succ, List.getElem?_cons_zero]; rfl) fun K hK => ?_
  go_simp
  refine (HG.out _).mono ?_
  rintro e v0 ⟨rfl, bv0⟩
  have zv0 := hbd.trans (bv0.mono hbd.size)
  refine hK.out _ _ (seg_keep zv0 ?_)
  clear hK K
  intro q hq
  have d3 := fun z => kept (hq z) c3 hSW
  have e0 := fun z => kept (hq z) s0 hRW
  have e1 := fun z => kept (hq z) s1 hRW
  simp only [pickI, Option.toList_some, List.cons_append, List.nil_append, List.getElem?_toArray, List.getElem?_cons_succ, List.getElem?_cons_zero]
  try go_frame
  go_big_quiet_step (fail)
  go_big_quiet_step (fail)
  refine wpQuiet_nil ?_
  clear hq q d3 e0 e1
  have k0 := kept zv0 s0 hRW
  have k1 := kept zv0 s1 hRW
  have HV := Lib.hid (HSW.out.below zv0)
  have HBV := Lib.hid (HBW.out.trans (zv0.mono HBW.out.size))
  have hWV : W.heap.size ≤ v0.heap.size := zv0.size
  clear c3 s0 s1 HSW HBW hbd HG
  have hvs := HV.out.row.lt
  have HSE := Lib.hid (sread_dn HV.out HF.out hd (f + 0) (by omega))
  rw [Int.natCast_add] at HSE
  go_wp2
  go_loopw [6, 24] (fun vr ir wr => ir = .int .u32 0 ∧ wr = v0) (fun _ ir _ => c - (intOf ir).toNat)
  case atStart => exact ⟨rfl, rfl⟩
  case round =>
    obtain ⟨rfl, rfl⟩ := hrel
    have hlt : 0 < c := hspan.1
    go_wp2_with (first
        | (go_at_call 58; refine HSE.out.mono ?_; rintro e w4 ⟨rfl, hb4⟩)
        | (refine wpL_bnew (o := ⟨some 8, _, _, _, _, _⟩) rfl rfl ?_; intro W5 b5 hN; obtain ⟨hb5, hr5, hl5, hz5⟩ := hN)
        | (refine wpL_bstore rfl (.tmp 8) (.tmp 34) rfl rfl rfl hr5.out rfl zb_len ?_; intro W6 hr6 hg6 hz6
           have hb06 : Below wr.heap.size wr W6 := (hb4.trans (hl5.mono hb4.size)).grown hg6 (Nat.le_trans hb4.size hl5.size) (fun q e => by have := Option.some.inj e; have := hb5.out; have := hb4.size; omega))
        | fail)
    go_ret2
    exact ⟨rfl, HBV.out.trans (hb06.mono HBV.out.size)⟩

end Go.Proofs.YtgbbbemedncdoaaGreatDoor

namespace Go.Proofs.YtgbbbemedncdoaaGreatDoor
open Go.RowKit
set_option maxRecDepth 20000
theorem E_blk : Elem Tryz.prog 108 116 (blkv Zb) 8 8 := Elem.mk_ Tryz.underlying108 (by kernel_rfl) rfl (by decide)
/-- A string's first bytes are copied into one of the blocks of a row of one's own. -/
theorem run_cps {w : World} {base m k : Nat} {e : TypeId} {g : Nat} {xs : List Value} {q : List UInt8} (hown : w.ownsRow base e 8 (.slice (some ⟨g, 0, none⟩) m m) m xs) (hk : k < m) (hq : 8 ≤ q.length) (ty : TypeId) (o : Nat) (ho : o = 8 * k) :
    ∃ w', (Builtin.copy_ #[86, 9] ty #[.slice (some ⟨g, o, none⟩) 8 8, .string (str q)]).run Tryz.prog w = .ok (goInt 8) w' ∧ w'.ownsRow base e 8 (.slice (some ⟨g, 0, none⟩) m m) m (xs.take (8 * k) ++ u8s (q.take 8) ++ xs.drop (8 * k + 8)) ∧ w.grownBy w' (some g) := by
  subst ho
  obtain ⟨hx, h2⟩ := hown
  rcases h2 with ⟨hv, _⟩ | ⟨g', cap, cur, hv, hbg, hg, hnc, hcm, hcs, htake⟩
  · cases hv
  · cases hv
    have hq8 : (u8s (q.take 8)).length = 8 := by rw [u8s_len, List.length_take]; omega
    have hst := run_storeCells_at Tryz.prog _ (8 * k) e (u8s (q.take 8)) 0 cur w hg (by rw [hq8, hcs]; omega) (u8s_one _)
    simp only [Nat.add_zero] at hst
    have hct : cur.toList = xs := by rw [← htake, List.take_of_length_le (by rw [Array.length_toList, hcs]; omega)]
    rw [hct, hq8] at hst
    have hsz : (str q).size = q.length := List.size_toArray
    have hmin : Nat.min (str q).size 8 = 8 := by rw [hsz]; exact Nat.min_eq_right hq
    have hfc : (((str q).extract 0 8).data.map fun b : UInt8 => Value.int .u8 (b.toNat : Int)).toList = u8s (q.take 8) := by
      rw [str_take]
      simp [str, u8s]
      rfl
    have hr : (Builtin.copy_ #[86, 9] ty #[.slice (some ⟨g, 8 * k, none⟩) 8 8, .string (str q)]).run Tryz.prog w = .ok (goInt 8) (w.setRow g (xs.take (8 * k) ++ u8s (q.take 8) ++ xs.drop (8 * k + 8)).toArray) := by
      have hse : (Go.sizeOf 5).run Tryz.prog w = .ok 1 w := by kernel_rfl
      simp only [Builtin.copy_, Builtin.lenOf, Builtin.firstCells, Sem.run_bind, run_underlying Tryz.underlying86, Result.andThen_ok, Sem.run_pure, hmin, hse, List.getElem?_toArray, List.getElem?_cons_succ, List.getElem?_cons_zero]
      rw [hfc, hst]
      rfl
    have hlen : (xs.take (8 * k) ++ u8s (q.take 8) ++ xs.drop (8 * k + 8)).length = m * 8 := by
      simp only [List.length_append, List.length_take, List.length_drop, hq8, hx]
      omega
    refine ⟨_, hr, ⟨hlen, .inr ⟨_, m, _, rfl, hbg, setRow_heap w _ cur _ e _ hg, Nat.le_refl _, hcm, by rw [List.size_toArray, hlen], ?_⟩⟩, ⟨rfl, rfl, rfl, by simp, fun k _ hk => setRow_other w _ k _ (fun e => hk (by rw [e]))⟩⟩
    rw [← hlen]
    exact List.take_length
/-- As far as k blocks were copied. -/
def cutTo (l : List UInt8) (m k : Nat) : List UInt8 := l.take (8 * k) ++ List.replicate (8 * (m - k)) 0
theorem cutTo_0 (l : List UInt8) (m : Nat) : u8s (cutTo l m 0) = (madeCells (blkv Zb).cells (m * 8)).toList := by
  have e : ∀ i, (u8s Zb).toArray[i % (u8s Zb).toArray.size]! = u8 0 := by
    intro i
    have h8 : i % 8 < 8 := Nat.mod_lt _ (by decide)
    have hs : (u8s Zb).toArray.size = 8 := rfl
    rw [hs]
    generalize i % 8 = j at h8
    match j, h8 with
    | 0, _ => rfl
    | 1, _ => rfl
    | 2, _ => rfl
    | 3, _ => rfl
    | 4, _ => rfl
    | 5, _ => rfl
    | 6, _ => rfl
    | 7, _ => rfl
  unfold madeCells cutTo
  rw [Array.toList_map, Nat.mul_zero, List.take_zero, List.nil_append, Nat.sub_zero]
  show _ = List.map (fun x => (u8s Zb).toArray[x % (u8s Zb).toArray.size]!) _
  rw [funext e, List.map_const', u8s, List.map_replicate, Array.length_toList, Array.size_range, Nat.mul_comm]
theorem cutTo_all (l : List UInt8) (m : Nat) (hl : l.length = 8 * m) : cutTo l m m = l := by
  unfold cutTo
  rw [Nat.sub_self, List.take_of_length_le (by omega)]
  simp
theorem cutTo_succ (l : List UInt8) (m k : Nat) (hl : l.length = 8 * m) (hk : k < m) : (u8s (cutTo l m k)).take (8 * k) ++ u8s ((l.drop (8 * k)).take 8) ++ (u8s (cutTo l m k)).drop (8 * k + 8) = u8s (cutTo l m (k + 1)) := by
  unfold cutTo u8s
  rw [← List.map_take, ← List.map_drop, ← List.map_append, ← List.map_append]
  congr 1
  have hlk : (l.take (8 * k)).length = 8 * k := by rw [List.length_take]; omega
  have hd0 : (l.take (8 * k)).drop (8 * k + 8) = [] := List.drop_of_length_le (by omega)
  rw [List.take_append_of_le_length (by omega), List.take_of_length_le (l := l.take (8 * k)) (by omega), List.drop_append, hlk, hd0, List.nil_append, List.drop_replicate, show 8 * (k + 1) = 8 * k + 8 from by omega, List.take_add, show 8 * (m - k) - (8 * k + 8 - 8 * k) = 8 * (m - (k + 1)) from by omega]
set_option maxHeartbeats 4000000 in
theorem scut_any (l : List UInt8) (m : Nat) (hl : l.length = 8 * m) (hm : m ≤ 65536) (w : World) :
    Calls Tryz.prog 52 #[.string (str l)] w fun e w' => ∃ v, e = .returned v ∧ w'.ownsRow w.heap.size 116 8 v m (u8s l) ∧ Below w.heap.size w w' := by
  have hsl : (str l).size = l.length := List.size_toArray
  have hdv : ((str l).size : Int) / 8 = (m : Int) := by rw [hsl, hl]; omega
  have hL : wrap64 (((str l).size : Int) / 8) = (m : Int) := by rw [hdv]; unfold wrap64; omega
  go_enter Tryz.func52, Tryz.ntmps52
  go_wp2_with (first
    | (at_make; refine wpL_make rfl _ _ _ rfl (base := w.heap.size) E_blk m rfl rfl (by first | exact hL | simp | (show wrap64 _ = _; exact hL)) (by first | exact hL | simp) (by omega) (by unfold maxLen; omega) (Nat.le_refl _) ?_; intro w3 hown3 hg3)
    | fail)
  rw [← cutTo_0 l m] at hown3
  go_loopw [11] (fun ir wr => ∃ i : Nat, i ≤ m ∧ ir = .int .i64 (i : Int) ∧ Hid (wr.ownsRow w.heap.size 116 8 (.slice (some ⟨w.heap.size, 0, none⟩) m m) m (u8s (cutTo l m i))) ∧ Hid (Below w.heap.size w wr)) (fun ir _ => m - (intOf ir).toNat)
  case atStart => exact ⟨0, Nat.zero_le _, rfl, Lib.hid hown3, Lib.hid ((Below.refl _ _).grown hg3 (Nat.le_refl _) (fun j e => by cases e))⟩
  case round =>
    obtain ⟨i, hi, rfl, RO, RB⟩ := hrel
    by_cases hlt : i < m
    · go_wp2
      refine wp_low w.heap.size [([0, 1, 2, 3, 4, 5, 6, 7], 8)] [] (by kernel_rfl) (by kernel_rfl) (fun d _ _ _ _ h => by cases d <;> exact h) (RB.out.size) fun wd hbd => ?_
      intro q hq
      simp only [pickI, Option.toList_some, List.cons_append, List.nil_append, List.getElem?_toArray, List.getElem?_cons_succ, List.getElem?_cons_zero]
      try go_frame
      go_big_quiet_step (fail)
      go_big_quiet_step (fail)
      go_big_quiet_step (fail)
      go_big_quiet_step (fail)
      go_big_quiet_step (fail)
      go_big_quiet_step (fail)
      go_big_quiet_step (fail)
      go_big_quiet_step (fail)
      refine wpQuiet_nil ?_
      clear hq q
      refine seg_op (by simp only [List.getElem?_toArray, List.getElem?_cons_succ, List.getElem?_cons_zero]; rfl) fun K hK => ?_
      go_simp
      have hx0 : (str l).extract (i * 8) (8 * m) = str (l.drop (i * 8)) := by rw [← hl]; exact str_drop l (i * 8)
      obtain ⟨w4, hrun, hown4, hg4⟩ := run_cps (q := l.drop (i * 8)) (ownsRow_bel RO.out hbd) hlt (by rw [List.length_drop]; omega) 3 (i * 8) (by omega)
      rw [hx0, hrun]
      simp only [Result.andThen]
      rw [Oper.upon_value]
      rw [Nat.mul_comm i 8, cutTo_succ l m i hl hlt] at hown4
      have zs := (hbd.mono RB.out.size).grown hg4 (Nat.le_trans RB.out.size hbd.size) (fun q e => by cases e; exact Nat.le_refl _)
      have ROw := Lib.hid hown4
      have RBw := Lib.hid (RB.out.trans zs)
      clear hown4 hg4 hrun
      refine hK.out _ _ (seg_keep zs ?_)
      clear hK K
      intro q hq
      refine wpQuiet_nil ?_
      clear hq q
      go_wp2
      go_roundw
      case rel => exact ⟨i + 1, by omega, by go_num, ROw, RBw⟩
      case measure => simp [intOf]; omega
    · obtain rfl : i = m := by omega
      go_wp2
      go_ret
      have hfin := RO.out
      rw [cutTo_all l i hl] at hfin
      exact ⟨_, rfl, hfin, RB.out⟩

end Go.Proofs.YtgbbbemedncdoaaGreatDoor
