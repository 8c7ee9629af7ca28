/- LitsTexts: the walk. -/
import Derived.Test.YtnedpngadfkmiaaDoorLawLib
import Derived.Test.YtnedpngadfkmiaaDoorLawOne
import Derived.Test.YtnedpngadfkmiaaDoorRead
import Derived.Test.YtnedpngadfkmiaaDoorRRead
namespace Go.Proofs.YtnedpngadfkmiaaDoor
open Go.RowKit
set_option linter.unusedVariables false

set_option maxHeartbeats 400000 in
set_option maxRecDepth 100000 in
theorem texts_big (a0 : Option Addr) (n0 c0 : Nat) (s : ByteArray) (w : World) (hT : Pow w.heap.size w) (hS : SameAt w) (h : 1000 < n0 ∨ 5000 < s.size) (h0 : n0 ≤ 9223372036854775807) (h1 : s.size ≤ 9223372036854775807) :
    Calls Tryd.prog 7 #[.slice a0 n0 c0, .string s] w (fun e w' => e = .returned (.bool true) ∧ Below w.heap.size w w') := by
  have HT := Lib.hid hT
  have HS := Lib.hid hS
  clear hT hS
  by_cases hn : 1000 < n0
  · go_enter Tryd.func7, Tryd.ntmps7
    go_wp2_with (go_at_call 19; refine (awakeX (Below.refl _ w) HT.out HS.out).mono ?_; rintro e w1 ⟨rfl, hb1⟩)
    go_ret
    exact ⟨rfl, hb1⟩
  · have hn1 : 5000 < s.size := by omega
    go_enter Tryd.func7, Tryd.ntmps7
    go_wp2_with (go_at_call 19; refine (awakeX (Below.refl _ w) HT.out HS.out).mono ?_; rintro e w1 ⟨rfl, hb1⟩)
    go_ret
    exact ⟨rfl, hb1⟩

def TxtPost (w : World) (t : ByteArray) (c : Int) (e : Ending) (w' : World) : Prop := e = .returned (.tuple #[.string t, .int .i64 c]) ∧ Below w.heap.size w w'

set_option maxHeartbeats 1600000 in
set_option maxRecDepth 100000 in
theorem texts_small (va : Value) (l : List Int) (s : ByteArray) (w : World) (hT : Pow w.heap.size w) (hS : SameAt w) (H : IsInts w va l) (hl : l.length ≤ 1000) (hs : s.size ≤ 5000) :
    Calls Tryd.prog 7 #[va, .string s] w (fun e w' => e = .returned (.bool true) ∧ Below w.heap.size w w') := by
  have hlt := hS.lt
  obtain ⟨t, hTx⟩ : ∃ t : ByteArray, t = ⟨(textL l).toArray⟩ := ⟨_, rfl⟩
  obtain ⟨c, hCx⟩ : ∃ c : Int, c = codeT l := ⟨_, rfl⟩
  obtain ⟨m, hMx⟩ : ∃ m, m = (readL s.data.toList).1 := ⟨_, rfl⟩
  obtain ⟨d, hDx⟩ : ∃ d, d = (readL s.data.toList).2 := ⟨_, rfl⟩
  have c1 : ∀ W, Pow W.heap.size W → IsInts W va l → Calls Tryd.prog 52 #[va] W (TxtPost W t c) := fun W hp h => by rw [hTx, hCx]; exact text_any va l W h hp
  have c2 : ∀ W, IsInts W va l → Calls Tryd.prog 53 #[va] W (TxtPost W t c) := fun W h => by rw [hTx, hCx]; exact rtext_any va l W h
  have c3 : ∀ W, Calls Tryd.prog 54 #[.string s] W (RetPair W (m, d)) := fun W => by rw [hMx, hDx]; exact read_any s W (by omega)
  have c4 : ∀ W, Calls Tryd.prog 55 #[.string s] W (RetPair W (m, d)) := fun W => by rw [hMx, hDx]; exact rread_any s W (by omega)
  clear hTx hCx hMx hDx
  have C1 := Lib.hid (c1 w hT H)
  have C2 := Lib.hid c2
  have C3 := Lib.hid c3
  have C4 := Lib.hid c4
  have HT := Lib.hid hT
  have HS := Lib.hid hS
  clear c1 c2 c3 c4 hT hS
  obtain ⟨a0, c0, rfl⟩ := H.shape
  go_enter Tryd.func7, Tryd.ntmps7
  go_wp2_with (first
    | (go_at_call 52; refine C1.out.mono ?_; rintro e w1 ⟨rfl, hz1⟩; have hs1 := hz1.size; have H1 := H.below hz1 (Nat.le_refl _))
    | (go_at_call 53; refine (C2.out w1 H1).mono ?_; rintro e w2 ⟨rfl, hb2⟩; have hz2 := hz1.trans (hb2.mono hs1); have hs2 := hz2.size)
    | (go_at_call 54; refine (C3.out w2).mono ?_; rintro e w3 ⟨v3, rfl, hi3, hb3⟩; have hz3 := hz2.trans (hb3.mono hs2); have hs3 := hz3.size)
    | (go_at_call 55; refine (C4.out w3).mono ?_; rintro e w4 ⟨v4, rfl, hi4, hb4⟩; have hi34 := hi3.below hb4 (Nat.le_refl _); have hz4 := hz3.trans (hb4.mono hs3); have hs4 := hz4.size; have hg4 : w4.cell? ⟨0, 0, none⟩ = _ := SameAt.below HS.out hz4 hlt)
    | (go_at_call 107; refine (sameX hz4 hi34 hi4).mono ?_; rintro e w5 ⟨rfl, hz5⟩)
    | (go_at_call 19; refine (awakeX hz5 HT.out HS.out).mono ?_; rintro e w6 ⟨rfl, hz6⟩))
  go_ret
  exact ⟨rfl, hz6⟩

end Go.Proofs.YtnedpngadfkmiaaDoor
