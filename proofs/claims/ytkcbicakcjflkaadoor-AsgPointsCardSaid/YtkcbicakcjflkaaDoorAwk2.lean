/- awake of layer 2. -/
import Derived.Test.YtkcbicakcjflkaaDoorAwk
namespace Go.Proofs.YtkcbicakcjflkaaDoor
open Go.RowKit
set_option linter.unusedVariables false
set_option linter.unusedSimpArgs false

def SameAz (w : World) : Prop := w.cell? ⟨0, 0, none⟩ = some (.func (.func 57) #[] #[])
theorem SameAz.lt {w : World} (h : SameAz w) : 0 < w.heap.size := World.block_lt_of_cell? w _ h
theorem SameAz.below {w w' : World} {B : Nat} (h : SameAz w) (hb : Below B w w') (hB : 0 < B) : SameAz w' := (hb.cell (p := ⟨0, 0, none⟩) hB).trans h

set_option maxHeartbeats 4000000 in
set_option maxRecDepth 100000 in
theorem awakez_any (w : World) (hS : SameAz w) : Calls Tryd.prog 12 #[] w (fun e w' => e = .returned (.bool true) ∧ Below w.heap.size w w') := by
  have hlt := hS.lt
  have HS := Lib.hid hS
  clear hS
  go_enter Tryd.func12, Tryd.ntmps12
  go_wp2_with (first
    | (go_at_call_of 27 w; refine (u1 w).mono ?_; rintro e w1 ⟨a1, c1, rfl, hi1, hb1⟩; have hs1 := hb1.size)
    | (go_at_call_of 27 w1; refine (u2 w1).mono ?_; rintro e w2 ⟨a2, c2, rfl, -, hb2⟩; have hs2 := hb2.size)
    | (go_at_call_of 27 w2; refine (u3 w2).mono ?_; rintro e w3 ⟨a3, c3, rfl, -, hb3⟩; have hs3 := hb3.size)
    | (go_at_call_of 32 w3; refine (p1 w3).mono ?_; rintro e w4 ⟨v4, rfl, hi4, hb4⟩; have hs4 := hb4.size)
    | (go_at_call_of 32 w4; refine (p2 w4).mono ?_; rintro e w5 ⟨v5, rfl, -, hb5⟩; have hs5 := hb5.size)
    | (go_at_call 34; refine (n1 w5).mono ?_; rintro e w6 ⟨rfl, hb6⟩; have hs6 := hb6.size; have hi6 := ((((hi1.below hb2 (Nat.le_refl _)).below hb3 (Nat.le_refl _)).below hb4 (Nat.le_refl _)).below hb5 (Nat.le_refl _)).below hb6 (Nat.le_refl _))
    | (go_at_call 31; refine (eqz w6 _ hi6).mono ?_; rintro e w7 ⟨rfl, hb7⟩; have hs7 := hb7.size; have hz7 := (((((hb1.trans (hb2.mono (by omega))).trans (hb3.mono (by omega))).trans (hb4.mono (by omega))).trans (hb5.mono (by omega))).trans (hb6.mono (by omega))).trans (hb7.mono (by omega)); have hg7 := HS.out.below hz7 hlt; unfold SameAz at hg7; have hi7 := ((hi4.below hb5 (Nat.le_refl _)).below hb6 (Nat.le_refl _)).below hb7 (Nat.le_refl _))
    | (go_at_call 57; refine (smz w7 _ hi7).mono ?_; rintro e w8 ⟨rfl, hb8⟩; have hs8 := hb8.size)
    | (go_at_call 15; refine (clz w8).mono ?_; rintro e w9 ⟨rfl, hb9⟩; have hs9 := hb9.size)
    | (go_at_call 17; refine (cuz w9).mono ?_; rintro e w10 ⟨rfl, hb10⟩; have hs10 := hb10.size)
    | (go_at_call 25; refine (cnz w10).mono ?_; rintro e w11 ⟨rfl, hb11⟩; have hs11 := hb11.size)
    | (go_at_call 13; refine (vlz w11).mono ?_; rintro e w12 ⟨rfl, hb12⟩; have hs12 := hb12.size)
    | (go_at_call 22; refine (unz w12).mono ?_; rintro e w13 ⟨a13, c13, rfl, hi13, hb13⟩; have hs13 := hb13.size)
    | (go_at_call 23; refine (saz w13 _ hi13).mono ?_; rintro e w14 ⟨rfl, hb14⟩; have hs14 := hb14.size; have hz14 := ((((((hz7.trans (hb8.mono (by omega))).trans (hb9.mono (by omega))).trans (hb10.mono (by omega))).trans (hb11.mono (by omega))).trans (hb12.mono (by omega))).trans (hb13.mono (by omega))).trans (hb14.mono (by omega))))
  go_ret
  exact ⟨rfl, hz14⟩

end Go.Proofs.YtkcbicakcjflkaaDoor
