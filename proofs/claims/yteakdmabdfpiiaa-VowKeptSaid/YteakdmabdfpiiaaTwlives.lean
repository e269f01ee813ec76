/- The chapter's example of layer 8. -/
import Derived.Test.YteakdmabdfpiiaaTwlZ
namespace Go.Proofs.Yteakdmabdfpiiaa
set_option maxRecDepth 20000
open Go.RowKit

theorem dl_new (n : Nat) (w : World) (h1 : 1 ≤ n) (hn : n ≤ 65536) : Calls Try.prog 10 #[.int .i64 (n : Int)] w fun e w' => ∃ g, e = .returned (.pointer (some ⟨g, 0, none⟩)) ∧ Dl w w' w.heap.size g 0 (Dv.new n) := by
  refine (new_good n w h1 hn).mono ?_
  rintro e w' ⟨F, g, rfl, ⟨bs, bl, v, k, hD, hk, hF⟩, hb⟩
  have hk' : k + (Dv.new n).ws.length ≤ 0 := hk
  exact ⟨g, rfl, fun i => w.heap.size ≤ i, ⟨bs, bl, v, k, hD, hk', Nat.le_refl _, fun i hi => (hD.foot_lt hi).1⟩, fun i hi => hi, hb⟩
section
variable {w W : World} {B g T : Nat}
theorem rd_one1 (W : World) (x : UInt8) : Rd (W.alloc (.cells #[.int .u8 (x.toNat : Int)] 5 (1, 2))) (W.alloc (.cells #[.int .u8 (x.toNat : Int)] 5 (1, 2))).heap.size 1 (some ⟨W.heap.size, 0, none⟩) 1 1 (u8s [x]) := Rd.lit W #[.int .u8 (x.toNat : Int)] 5 rfl (by decide) (by simp)
theorem bel_one (W : World) (o : Obj) : Below W.heap.size W (W.alloc o) := (Below.refl _ _).alloc (Nat.le_refl _) _
theorem xs1 (h : Tl w W B g T 0 (Dv.new 9) xT0) : Calls Try.prog 16 #[.pointer (some ⟨T, 0, none⟩), .slice (some ⟨W.heap.size, 0, none⟩) 1 1] (W.alloc (.cells #[.int .u8 97] 5 (1, 2))) fun e w' => e = .returned (.int .i64 0) ∧ Tl w w' B g T 80 xD1 xT1 := by
  rw [xT0_is] at h
  have h2 := tl_save (h.below (bel_one W (.cells #[.int .u8 97] 5 (1, 2)))) (by decide) (some ⟨W.heap.size, 0, none⟩) 1 1 [97] (rd_one1 W 97) (by decide) (by decide) (by decide) (by decide) (by decide) (by decide) (by decide) (by decide) (by decide) (by decide) (by decide)
  rw [show (⟨1, 2, 0, 0, [], 1⟩ : Tv).base + (⟨1, 2, 0, 0, [], 1⟩ : Tv).free * (⟨1, 2, 0, 0, [], 1⟩ : Tv).size = 1 from by decide, xD1_e] at h2
  exact h2
theorem xD1_n : xD1.n = 9 := by kernel_rfl
theorem xD2_n : xD2.n = 9 := by kernel_rfl
theorem xs2 (h : Tl w W B g T 80 xD1 xT1) : Calls Try.prog 16 #[.pointer (some ⟨T, 0, none⟩), .slice (some ⟨W.heap.size, 0, none⟩) 1 1] (W.alloc (.cells #[.int .u8 98] 5 (1, 2))) fun e w' => e = .returned (.int .i64 0) ∧ Tl w w' B g T 160 xD2 xT2 := by
  have h2 := tl_save (h.below (bel_one W (.cells #[.int .u8 98] 5 (1, 2)))) (by decide) (some ⟨W.heap.size, 0, none⟩) 1 1 [98] (rd_one1 W 98) (by decide) (by decide) (by decide) (by decide) (by decide) (by decide) (by decide) (by decide) (by decide) (by decide) (by rw [xD1_n]; decide)
  rw [show xT1.base + xT1.free * xT1.size = 3 from by decide, show xT1.next = 2 from rfl, xD2_e] at h2
  exact h2
theorem xs3 (h : Tl w W B g T 160 xD2 xT2) : Calls Try.prog 16 #[.pointer (some ⟨T, 0, none⟩), .slice (some ⟨W.heap.size, 0, none⟩) 1 1] (W.alloc (.cells #[.int .u8 99] 5 (1, 2))) fun e w' => e = .returned (.int .i64 0) ∧ Tl w w' B g T 240 xD3 xT3 := by
  have h2 := tl_save (h.below (bel_one W (.cells #[.int .u8 99] 5 (1, 2)))) (by decide) (some ⟨W.heap.size, 0, none⟩) 1 1 [99] (rd_one1 W 99) (by decide) (by decide) (by decide) (by decide) (by decide) (by decide) (by decide) (by decide) (by decide) (by decide) (by rw [xD2_n]; decide)
  rw [show xT2.base + xT2.free * xT2.size = 1 from by decide, show xT2.next = 3 from rfl, xD3_e] at h2
  exact h2
theorem xlast (h : Tl w W B g T 240 xD3 xT3) : Calls Try.prog 22 #[.pointer (some ⟨T, 0, none⟩)] W fun e w' => ∃ A c, e = .returned (.tuple #[.slice A 1 c, .bool true]) ∧ Rd w' w'.heap.size 1 A 1 c (u8s [99]) ∧ Below W.heap.size W w' := twlast_some h.tw (by decide) (by decide)
theorem xnumber (h : Tl w W B g T 240 xD3 xT3) : Calls Try.prog 24 #[.pointer (some ⟨T, 0, none⟩)] W fun e w' => e = .returned (.int .u64 3) ∧ W = w' := twnumber_any h.tw
theorem xnext (h : Tl w W B g T 240 xD3 xT3) : Calls Try.prog 25 #[.pointer (some ⟨T, 0, none⟩)] W fun e w' => e = .returned (.int .u64 4) ∧ W = w' := twnext_any h.tw
def xB : List UInt8 := xD3.bytes 1 1
theorem xB_12 : xB[12]? = some 99 := by kernel_rfl
theorem xread (h : Tl w W B g T 240 xD3 xT3) : Calls Try.prog 33 #[.pointer (some ⟨g, 0, none⟩), .int .i64 1, .int .i64 1] W fun e w' => ∃ q c, e = .returned (.tuple #[.slice (some ⟨q, 0, none⟩) 64 c, .int .i64 0]) ∧ w'.cell? ⟨q, 12, none⟩ = some (.int .u8 99) ∧ Below W.heap.size W w' := by
  obtain ⟨N, k1, _⟩ := h
  refine (own_read k1 xD3_d 1 1 (by decide) (by rw [xD3_n]; decide)).mono ?_
  rintro e w4 ⟨v4, rfl, hown, hb⟩
  rcases hown.2 with ⟨e1, e2⟩ | ⟨q, cap, cur, rfl, _⟩
  · omega
  · have c0 := hown.cells (g := q) rfl 12 (u8 99) (by rw [u8s, List.getElem?_map]; show Option.map u8 (xB[12]?) = _; rw [xB_12]; rfl)
    rw [addOff] at c0
    exact ⟨q, cap, rfl, c0, hb⟩
end

set_option maxHeartbeats 4000000 in
theorem lives8 (w : World) : Calls Try.prog 9 #[] w fun e w' => e = .returned (.bool true) ∧ Below w.heap.size w w' := by
  have HNew := Lib.hid (dl_new 9 w (by omega) (by omega))
  have kc := fun (w : World) (C : Array Value) (n c : Nat) => Lib.run_convert_bytes_const (P := Try.prog) w 38 5 C n c Try.underlying38 Try.underlying5
  have ks : (str [99]).toList = [99] := by kernel_rfl
  go_enter Try.func9, Try.ntmps9
  go_wp2_with (first
    | (go_at_call 10; refine HNew.out.mono ?_; rintro e w1 ⟨g, rfl, hD0⟩)
    | (go_at_call 13; refine (dl_open hT3.dl xD3_d 1 2 (by decide) (by decide) (by decide) (by rw [xD3_n]; decide)).mono ?_; rintro e w6 ⟨U, rfl, hU⟩; have hU : Tl w w6 w.heap.size g U 240 xD3 (openTv 1 2 (xD3.bytes 1 4)) := hU; rw [xT_is] at hU)
    | (go_at_call 13; refine (dl_open hD0 rfl 1 2 (by decide) (by decide) (by decide) (by decide)).mono ?_; rintro e w2 ⟨T, rfl, hT0⟩; have hT0 : Tl w w2 w.heap.size g T 0 (Dv.new 9) xT0 := hT0)
    | (go_at_call 16; refine (xs3 hT2).mono ?_; rintro e w5 ⟨rfl, hT3⟩)
    | (go_at_call 16; refine (xs2 hT1).mono ?_; rintro e w4 ⟨rfl, hT2⟩)
    | (go_at_call 16; refine (xs1 hT0).mono ?_; rintro e w3 ⟨rfl, hT1⟩)
    | (go_at_call 22; refine (xlast hU).mono ?_; rintro e w7 ⟨A7, c7, rfl, hr7, hb7⟩; have hU7 := hU.below hb7)
    | (go_at_call 33; refine (xread hU7).mono ?_; rintro e w8 ⟨q8, c8, rfl, hc8, hb8⟩; have hU8 := hU7.below hb8
       have hcv := run_str (l := [99]) Try.underlying38 Try.underlying5 Try.underlying9 ((hr7.below hb8).more hb8.size))
    | (go_at_call 24; refine (xnumber hU8).mono ?_; rintro e w9 ⟨rfl, rfl⟩)
    | (go_at_call 25; refine (xnext hU8).mono ?_; rintro e w9 ⟨rfl, rfl⟩)
    | fail)
  go_ret
  exact ⟨rfl, hU8.bel⟩

end Go.Proofs.Yteakdmabdfpiiaa
