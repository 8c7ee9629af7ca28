/- LitsBack: the walk. -/
import Derived.Test.YtpknoklombhjeaaDoorLawLib
import Derived.Test.YtpknoklombhjeaaDoorRead
import Derived.Test.YtpknoklombhjeaaDoorJoinR
namespace Go.Proofs.YtpknoklombhjeaaDoor
open Go.RowKit
set_option linter.unusedVariables false

def bytesOf (l : List UInt8) : ByteArray := ⟨l.toArray⟩
theorem bytesOf_data (s : ByteArray) : bytesOf s.data.toList = s := by cases s; rfl
theorem bytesOf_list (l : List UInt8) : (bytesOf l).data.toList = l := by simp [bytesOf]
theorem bytesOf_size (l : List UInt8) : (bytesOf l).size = l.length := by simp [bytesOf, ByteArray.size]
/-- A normal list's text. -/
theorem textYes {w W : World} {v : Value} {l : List Int} {b : ByteArray} (hb : Below w.heap.size w W) (hT : Pow w.heap.size w) (H : IsInts W v l) (hm : mayB l = true) (hbt : b = bytesOf (textB l)) :
    Calls Tryd.prog 44 #[v] W (fun e w' => e = .returned (.tuple #[.string b, .int .i64 0]) ∧ Below W.heap.size W w' ∧ Below w.heap.size w w') :=
  (text_any v l W H ((hT.on hb).up hb.size)).mono fun e w' h => ⟨by rw [h.1, hbt]; unfold textL codeT; rw [if_pos hm, if_pos hm]; rfl, h.2, hb.trans (h.2.mono hb.size)⟩
theorem textNo {w W : World} {v : Value} {l : List Int} (hb : Below w.heap.size w W) (hT : Pow w.heap.size w) (H : IsInts W v l) (hm : mayB l = false) :
    Calls Tryd.prog 44 #[v] W (fun e w' => e = .returned (.tuple #[.string ⟨#[]⟩, .int .i64 2]) ∧ Below w.heap.size w w') :=
  (text_any v l W H ((hT.on hb).up hb.size)).mono fun e w' h => ⟨by rw [h.1]; unfold textL codeT; rw [if_neg (by rw [hm]; simp), if_neg (by rw [hm]; simp)]; rfl, hb.trans (h.2.mono hb.size)⟩
theorem readX {w W : World} {s : ByteArray} {l : List Int} {c : Int} (hb : Below w.heap.size w W) (hs : s.size ≤ 9223372036854775807) (hr : readL s.data.toList = (l, c)) :
    Calls Tryd.prog 46 #[.string s] W (fun e w' => ∃ a cap, e = .returned (.tuple #[.slice a l.length cap, .int .i64 c]) ∧ IsInts w' (.slice a l.length cap) l ∧ Below w.heap.size w w') :=
  (read_any s W hs).mono fun e w' h => by
    obtain ⟨v, h1, h2, h3⟩ := h
    rw [hr] at h1 h2
    obtain ⟨a, cap, rfl⟩ := h2.shape
    exact ⟨a, cap, h1, h2, hb.trans (h3.mono hb.size)⟩

set_option maxHeartbeats 400000 in
set_option maxRecDepth 100000 in
theorem back_big (a0 : Option Addr) (n0 c0 : Nat) (s : ByteArray) (w : World) (hT : Pow w.heap.size w) (hS : SameAt w) (h : 1000 < n0 ∨ 5000 < s.size) (h0 : n0 ≤ 9223372036854775807) (h1 : s.size ≤ 9223372036854775807) :
    Calls Tryd.prog 10 #[.slice a0 n0 c0, .string s] w (fun e w' => e = .returned (.bool true) ∧ Below w.heap.size w w') := by
  have HT := Lib.hid hT
  have HS := Lib.hid hS
  clear hT hS
  by_cases hn : 1000 < n0
  · go_enter Tryd.func10, Tryd.ntmps10
    go_wp2_with (go_at_call 11; refine (awakeX (Below.refl _ w) HT.out HS.out).mono ?_; rintro e w1 ⟨rfl, hb1⟩)
    go_ret
    exact ⟨rfl, hb1⟩
  · have hn1 : 5000 < s.size := by omega
    go_enter Tryd.func10, Tryd.ntmps10
    go_wp2_with (go_at_call 11; refine (awakeX (Below.refl _ w) HT.out HS.out).mono ?_; rintro e w1 ⟨rfl, hb1⟩)
    go_ret
    exact ⟨rfl, hb1⟩

set_option maxHeartbeats 1000000 in
set_option maxRecDepth 100000 in
theorem back_yy (va : Value) (l : List Int) (s : ByteArray) (w : World) (hT : Pow w.heap.size w) (hS : SameAt w) (H : IsInts w va l) (hl : l.length ≤ 1000) (hs5 : s.size ≤ 5000) (hm : mayB l = true) (hr : (readL s.data.toList).2 = 0) :
    Calls Tryd.prog 10 #[va, .string s] w (fun e w' => e = .returned (.bool true) ∧ Below w.heap.size w w') := by
  have hlt := hS.lt
  have HT := Lib.hid hT
  have HS := Lib.hid hS
  clear hT hS
  have hs : s.size ≤ 9223372036854775807 := by omega
  obtain ⟨a0, c0, rfl, hl0⟩ := H.shape
  have hb0 := Below.refl w.heap.size w
  obtain ⟨m, hrs⟩ : ∃ m, readL s.data.toList = (m, 0) := ⟨_, by rw [← hr]⟩
  have HRS := Lib.hid hrs
  have HM := Lib.hid (readL_ok hrs).1
  have HB : Hid (s = bytesOf (textB m)) := by show _ = _; rw [(readL_ok hrs).2, bytesOf_data]
  clear hr hrs
  obtain ⟨bt, hbt⟩ : ∃ bt, bt = bytesOf (textB l) := ⟨_, rfl⟩
  have hbs : bt.size ≤ 9223372036854775807 := by
    have := textB_len l H.in64
    rw [hbt, bytesOf_size]; omega
  have hrb : readL bt.data.toList = (l, 0) := by rw [hbt, bytesOf_list]; exact readL_text hm
  have HBT := Lib.hid hbt
  have HRB := Lib.hid hrb
  have HML := Lib.hid hm
  clear hbt hrb hm
  go_enter Tryd.func10, Tryd.ntmps10
  go_wp2_with (first
    | (go_at_call_of 44 a0; refine (textYes hb0 HT.out H HML.out HBT.out).mono ?_; rintro e w1 ⟨rfl, hb1, hz1⟩; have H1 := H.below hb1 (Nat.le_refl _))
    | (go_at_call 17; refine (rmay_v _ l _ H1).mono ?_; rintro e w2 ⟨rfl, hq2⟩; have hz2 := hz1.trans (hq2.below _); have hmt := HML.out)
    | (go_at_call_of 46 bt; refine (readX hz2 hbs HRB.out).mono ?_; rintro e w3 ⟨a3, c3, rfl, hi3, hz3⟩; have H3 := H.below hz3 (Nat.le_refl _); have hg3 : w3.cell? ⟨0, 0, none⟩ = _ := SameAt.below HS.out hz3 hlt)
    | (go_at_call_of 74 a3; refine (sameX hz3 H3 hi3).mono ?_; rintro e w4 ⟨rfl, hz4⟩)
    | (go_at_call_of 46 s; refine (readX hz4 hs HRS.out).mono ?_; rintro e w5 ⟨a5, c5, rfl, hi5, hz5⟩)
    | (go_at_call_of 44 a5; refine (textYes hz5 HT.out hi5 HM.out HB.out).mono ?_; rintro e w7 ⟨rfl, -, hz7⟩)
    | (go_at_call 11; refine (awakeX hz7 HT.out HS.out).mono ?_; rintro e w6 ⟨rfl, hz6⟩))
  go_ret
  exact ⟨rfl, hz6⟩

set_option maxHeartbeats 1000000 in
set_option maxRecDepth 100000 in
theorem back_yn (va : Value) (l : List Int) (s : ByteArray) (w : World) (hT : Pow w.heap.size w) (hS : SameAt w) (H : IsInts w va l) (hl : l.length ≤ 1000) (hs5 : s.size ≤ 5000) (hm : mayB l = true) (hr : (readL s.data.toList).2 ≠ 0) :
    Calls Tryd.prog 10 #[va, .string s] w (fun e w' => e = .returned (.bool true) ∧ Below w.heap.size w w') := by
  have hlt := hS.lt
  have HT := Lib.hid hT
  have HS := Lib.hid hS
  clear hT hS
  have hs : s.size ≤ 9223372036854775807 := by omega
  obtain ⟨a0, c0, rfl, hl0⟩ := H.shape
  have hb0 := Below.refl w.heap.size w
  have HRS := Lib.hid (readL_err hr)
  clear hr
  obtain ⟨bt, hbt⟩ : ∃ bt, bt = bytesOf (textB l) := ⟨_, rfl⟩
  have hbs : bt.size ≤ 9223372036854775807 := by
    have := textB_len l H.in64
    rw [hbt, bytesOf_size]; omega
  have hrb : readL bt.data.toList = (l, 0) := by rw [hbt, bytesOf_list]; exact readL_text hm
  have HBT := Lib.hid hbt
  have HRB := Lib.hid hrb
  have HML := Lib.hid hm
  clear hbt hrb hm
  go_enter Tryd.func10, Tryd.ntmps10
  go_wp2_with (first
    | (go_at_call_of 44 a0; refine (textYes hb0 HT.out H HML.out HBT.out).mono ?_; rintro e w1 ⟨rfl, hb1, hz1⟩; have H1 := H.below hb1 (Nat.le_refl _))
    | (go_at_call 17; refine (rmay_v _ l _ H1).mono ?_; rintro e w2 ⟨rfl, hq2⟩; have hz2 := hz1.trans (hq2.below _); have hmt := HML.out)
    | (go_at_call_of 46 bt; refine (readX hz2 hbs HRB.out).mono ?_; rintro e w3 ⟨a3, c3, rfl, hi3, hz3⟩; have H3 := H.below hz3 (Nat.le_refl _); have hg3 : w3.cell? ⟨0, 0, none⟩ = _ := SameAt.below HS.out hz3 hlt)
    | (go_at_call_of 74 a3; refine (sameX hz3 H3 hi3).mono ?_; rintro e w4 ⟨rfl, hz4⟩)
    | (go_at_call_of 46 s; refine (readX hz4 hs HRS.out).mono ?_; rintro e w5 ⟨a5, c5, rfl, hi5, hz5⟩)
    | (go_at_call 11; refine (awakeX hz5 HT.out HS.out).mono ?_; rintro e w6 ⟨rfl, hz6⟩))
  go_ret
  exact ⟨rfl, hz6⟩

set_option maxHeartbeats 1000000 in
set_option maxRecDepth 100000 in
theorem back_ny (va : Value) (l : List Int) (s : ByteArray) (w : World) (hT : Pow w.heap.size w) (hS : SameAt w) (H : IsInts w va l) (hl : l.length ≤ 1000) (hs5 : s.size ≤ 5000) (hm : mayB l = false) (hr : (readL s.data.toList).2 = 0) :
    Calls Tryd.prog 10 #[va, .string s] w (fun e w' => e = .returned (.bool true) ∧ Below w.heap.size w w') := by
  have hlt := hS.lt
  have HT := Lib.hid hT
  have HS := Lib.hid hS
  clear hT hS
  have hs : s.size ≤ 9223372036854775807 := by omega
  obtain ⟨a0, c0, rfl, hl0⟩ := H.shape
  have hb0 := Below.refl w.heap.size w
  obtain ⟨m, hrs⟩ : ∃ m, readL s.data.toList = (m, 0) := ⟨_, by rw [← hr]⟩
  have HRS := Lib.hid hrs
  have HM := Lib.hid (readL_ok hrs).1
  have HB : Hid (s = bytesOf (textB m)) := by show _ = _; rw [(readL_ok hrs).2, bytesOf_data]
  clear hr hrs
  have HML := Lib.hid hm
  clear hm
  go_enter Tryd.func10, Tryd.ntmps10
  go_wp2_with (first
    | (go_at_call_of 44 a0; refine (textNo hb0 HT.out H HML.out).mono ?_; rintro e w1 ⟨rfl, hz1⟩; have H1 := H.below hz1 (Nat.le_refl _))
    | (go_at_call 17; refine (rmay_v _ l _ H1).mono ?_; rintro e w4 ⟨rfl, hq2⟩; have hz4 := hz1.trans (hq2.below _); have hmt := HML.out)
    | (go_at_call_of 46 s; refine (readX hz4 hs HRS.out).mono ?_; rintro e w5 ⟨a5, c5, rfl, hi5, hz5⟩)
    | (go_at_call_of 44 a5; refine (textYes hz5 HT.out hi5 HM.out HB.out).mono ?_; rintro e w7 ⟨rfl, -, hz7⟩)
    | (go_at_call 11; refine (awakeX hz7 HT.out HS.out).mono ?_; rintro e w6 ⟨rfl, hz6⟩))
  go_ret
  exact ⟨rfl, hz6⟩

set_option maxHeartbeats 1000000 in
set_option maxRecDepth 100000 in
theorem back_nn (va : Value) (l : List Int) (s : ByteArray) (w : World) (hT : Pow w.heap.size w) (hS : SameAt w) (H : IsInts w va l) (hl : l.length ≤ 1000) (hs5 : s.size ≤ 5000) (hm : mayB l = false) (hr : (readL s.data.toList).2 ≠ 0) :
    Calls Tryd.prog 10 #[va, .string s] w (fun e w' => e = .returned (.bool true) ∧ Below w.heap.size w w') := by
  have hlt := hS.lt
  have HT := Lib.hid hT
  have HS := Lib.hid hS
  clear hT hS
  have hs : s.size ≤ 9223372036854775807 := by omega
  obtain ⟨a0, c0, rfl, hl0⟩ := H.shape
  have hb0 := Below.refl w.heap.size w
  have HRS := Lib.hid (readL_err hr)
  clear hr
  have HML := Lib.hid hm
  clear hm
  go_enter Tryd.func10, Tryd.ntmps10
  go_wp2_with (first
    | (go_at_call_of 44 a0; refine (textNo hb0 HT.out H HML.out).mono ?_; rintro e w1 ⟨rfl, hz1⟩; have H1 := H.below hz1 (Nat.le_refl _))
    | (go_at_call 17; refine (rmay_v _ l _ H1).mono ?_; rintro e w4 ⟨rfl, hq2⟩; have hz4 := hz1.trans (hq2.below _); have hmt := HML.out)
    | (go_at_call_of 46 s; refine (readX hz4 hs HRS.out).mono ?_; rintro e w5 ⟨a5, c5, rfl, hi5, hz5⟩)
    | (go_at_call 11; refine (awakeX hz5 HT.out HS.out).mono ?_; rintro e w6 ⟨rfl, hz6⟩))
  go_ret
  exact ⟨rfl, hz6⟩

end Go.Proofs.YtpknoklombhjeaaDoor
