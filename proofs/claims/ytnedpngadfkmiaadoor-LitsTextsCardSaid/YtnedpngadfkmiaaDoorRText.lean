/- The reference's number and Text. -/
import Derived.Test.YtnedpngadfkmiaaDoorTextD
import Derived.Lib.BufferRead
import Derived.Laws.IdiomStrings
namespace Go.Proofs.YtnedpngadfkmiaaDoor
open Go.RowKit Go.Lib
set_option linter.unusedVariables false

/-- The digits of a number as the reference puts them together. -/
def numB (n : Nat) : List UInt8 := if n < 10 then [UInt8.ofNat (48 + n)] else numB (n / 10) ++ numB (n % 10)
termination_by n
decreasing_by all_goals omega

theorem numB_lo {n : Nat} (h : n < 10) : numB n = [UInt8.ofNat (48 + n)] := by rw [numB, if_pos h]
theorem numB_hi {n : Nat} (h : ¬ n < 10) : numB n = numB (n / 10) ++ numB (n % 10) := by rw [numB, if_neg h]
theorem numB_dec (n : Nat) (h : 0 < n) : numB n = decDigits n := by
  induction n using Nat.strongRecOn with
  | ind n ih =>
    by_cases h1 : n < 10
    · rw [numB_lo h1]
      have := decDigits_step 0 n (by omega) h1
      simpa using this.symm
    · rw [numB_hi h1, ih (n / 10) (by omega) (by omega), numB_lo (by omega : n % 10 < 10)]
      have := decDigits_step (n / 10) (n % 10) (by omega) (by omega)
      rw [if_neg (by omega), show 10 * (n / 10) + n % 10 = n from by omega] at this
      exact this.symm
theorem numB_len (n : Nat) : 1 ≤ (numB n).length ∧ (numB n).length ≤ n + 1 := by
  induction n using Nat.strongRecOn with
  | ind n ih =>
    by_cases h1 : n < 10
    · rw [numB_lo h1]; simp
    · rw [numB_hi h1, List.length_append]
      have a := ih (n / 10) (by omega)
      have b := ih (n % 10) (by omega)
      omega
theorem numB_itoa (x : Int) (h : x ≠ 0) : itoa x = (if x < 0 then [45] else []) ++ numB x.natAbs := by
  rw [numB_dec _ (by omega)]
  by_cases hx : x < 0
  · have := itoa_lit true (-x) (by omega)
    rw [if_pos hx]
    simp only [if_true, Int.neg_neg] at this
    rw [this, show (-x).toNat = x.natAbs from by omega]
  · have := itoa_lit false x (by omega)
    rw [if_neg hx]
    simp only [Bool.false_eq_true, if_false] at this
    rw [this, show x.toNat = x.natAbs from by omega]

def NumPost (w : World) (b : List UInt8) (e : Ending) (w' : World) : Prop := e = .returned (.string ⟨b.toArray⟩) ∧ Below w.heap.size w w'

theorem ret_str {a b : List UInt8} (h : a = b) : Ending.returned (.string ⟨a.toArray⟩) = .returned (.string ⟨b.toArray⟩) := by rw [h]

set_option maxHeartbeats 400000 in
set_option maxRecDepth 100000 in
theorem rnumber_lo (n : Nat) (w : World) (h : n < 10) : Calls Tryd.prog 109 #[.int .i64 n] w (NumPost w (numB n)) := by
  obtain ⟨c, hc⟩ : ∃ c : UInt8, c = UInt8.ofNat (48 + n) := ⟨_, rfl⟩
  have h8 : (48 : Int) + (n : Int) = (c.toNat : Int) := by rw [hc, u8_toNat _ (by omega)]; omega
  have HB : Hid (numB n = [c]) := by show _ = _; rw [hc]; exact numB_lo h
  have hcv : (convert 93 9 (.slice (some ⟨w.heap.size, 0, none⟩) 1 1)).run Tryd.prog (w.alloc (.cells #[.int .u8 (48 + n)] 5)) = .ok (.string ⟨#[c]⟩) (w.alloc (.cells #[.int .u8 (48 + n)] 5)) :=
    run_convert_bytes_back (P := Tryd.prog) _ 93 9 5 ⟨w.heap.size, 0, none⟩ 1 [c] Tryd.underlying93 Tryd.underlying5 Tryd.underlying9 (fun j hj => by
      have hj0 : j = 0 := by simpa using hj
      subst hj0
      rw [Addr.add_lit, h8]
      simp)
  clear hc h8
  go_enter Tryd.func109, Tryd.ntmps109
  go_wp2
  go_ret
  exact ⟨(ret_str (a := [c]) HB.out.symm), (Below.refl _ _).alloc (Nat.le_refl _) _⟩

theorem str_add (a b : List UInt8) : (⟨a.toArray⟩ : ByteArray) ++ ⟨b.toArray⟩ = ⟨(a ++ b).toArray⟩ := by
  apply ByteArray.ext; simp

set_option maxHeartbeats 400000 in
set_option maxRecDepth 100000 in
theorem rnumber_pos (n : Nat) (w : World) (h : n ≤ 65536) : Calls Tryd.prog 109 #[.int .i64 n] w (NumPost w (numB n)) := by
  induction n using Nat.strongRecOn generalizing w with
  | ind n ih =>
    by_cases h1 : n < 10
    · exact rnumber_lo n w h1
    · have HB := Lib.hid (numB_hi h1)
      have lp : (numB (n / 10)).length ≤ 65537 := by have := (numB_len (n / 10)).2; omega
      have lq : (numB (n % 10)).length ≤ 65537 := by have := (numB_len (n % 10)).2; omega
      have i1 : ∀ W, Calls Tryd.prog 109 #[.int .i64 ((n : Int) / 10)] W (NumPost W (numB (n / 10))) := fun W => by
        have := ih (n / 10) (by omega) W (by omega)
        rw [show ((n / 10 : Nat) : Int) = (n : Int) / 10 from by omega] at this
        exact this
      have i2 : ∀ W, Calls Tryd.prog 109 #[.int .i64 ((n : Int) % 10)] W (NumPost W (numB (n % 10))) := fun W => by
        have := ih (n % 10) (by omega) W (by omega)
        rw [show ((n % 10 : Nat) : Int) = (n : Int) % 10 from by omega] at this
        exact this
      generalize numB (n / 10) = p at *
      generalize numB (n % 10) = q at *
      have I1 := Lib.hid i1
      have I2 := Lib.hid i2
      clear i1 i2 ih
      go_enter Tryd.func109, Tryd.ntmps109
      go_wp2_with fail
      refine (I1.out _).mono ?_
      rintro e w1 ⟨rfl, hb1⟩
      go_wp2_with fail
      refine (I2.out _).mono ?_
      rintro e w2 ⟨rfl, hb2⟩
      go_wp2
      go_ret
      exact ⟨(ret_str HB.out.symm), hb1.trans (hb2.mono hb1.size)⟩

/-- A literal's digits. -/
theorem itoa_len (x : Int) (h : x ≠ 0) (h1 : -65536 ≤ x) (h2 : x ≤ 65536) : (itoa x).length ≤ 65538 := by
  rw [numB_itoa x h, List.length_append]
  have := (numB_len x.natAbs).2
  split <;> simp <;> omega

set_option maxHeartbeats 400000 in
set_option maxRecDepth 100000 in
theorem rnumber_any (x : Int) (w : World) (h : litB x = true) : Calls Tryd.prog 109 #[.int .i64 x] w (NumPost w (itoa x)) := by
  obtain ⟨h0, h1, h2⟩ := litB_bd h
  have e := numB_itoa x h0
  by_cases hx : x < 0
  · have i1 : ∀ W, Calls Tryd.prog 109 #[.int .i64 (-x)] W (NumPost W (numB x.natAbs)) := fun W => by
      have := rnumber_pos x.natAbs W (by omega)
      rw [show (x.natAbs : Int) = -x from by omega] at this
      exact this
    have lp : (numB x.natAbs).length ≤ 65537 := by have := (numB_len x.natAbs).2; omega
    rw [if_pos hx] at e
    generalize numB x.natAbs = p at *
    have I1 := Lib.hid i1
    have HE := Lib.hid e
    clear i1 e
    go_enter Tryd.func109, Tryd.ntmps109
    go_wp2_with fail
    refine (I1.out _).mono ?_
    rintro e w1 ⟨rfl, hb1⟩
    go_wp2
    go_ret
    exact ⟨(ret_str (a := [45] ++ p) HE.out.symm), hb1⟩
  · rw [if_neg hx] at e
    rw [e]
    have := rnumber_pos x.natAbs w (by omega)
    rw [show (x.natAbs : Int) = x from by omega] at this
    exact this

set_option maxHeartbeats 400000 in
set_option maxRecDepth 100000 in
theorem rtext_any (v : Value) (l : List Int) (w : World) (H : IsInts w v l) :
    Calls Tryd.prog 53 #[v] w (fun e w' => e = .returned (.tuple #[strV (textL l), .int .i64 (codeT l)]) ∧ Below w.heap.size w w') := by
  have H0 := H
  obtain ⟨a, cap, rfl, _, _, hl, h64, b, off, ha, hc⟩ := H
  by_cases hm : mayB l = true
  · have HR : Hid (textL l = textB l ∧ codeT l = 0) := by show _ ∧ _; unfold textL codeT; rw [if_pos hm, if_pos hm]; exact ⟨rfl, rfl⟩
    go_enter Tryd.func53, Tryd.ntmps53
    go_wp2_with (go_at_call 25; refine (rmay_v _ l _ H0).mono ?_; rintro e w1 ⟨rfl, hq1⟩)
    have hb1 := hq1.below w.heap.size
    clear hq1
    go_loopw [4, 5] (fun out i wr => ∃ (k : Nat) (t : List UInt8), k ≤ l.length ∧ i = .int .i64 k ∧ out = .string ⟨t.toArray⟩ ∧ t = textB (l.take k) ∧ Below w.heap.size w wr) (fun _ i _ => l.length - (intOf i).toNat)
    case atStart => exact ⟨0, [], Nat.zero_le _, rfl, rfl, by simp [textB], hb1⟩
    case round =>
      obtain ⟨k, t, hk, rfl, rfl, ht, hbel⟩ := hrel
      have hln := textB_take_len hm hk
      rw [← ht] at hln
      have hsz := hbel.size
      by_cases hlt : k < l.length
      · obtain ⟨rfl, hb⟩ := ha (by intro h; simp [h] at hlt)
        have hy := (hbel.cell (p := ⟨b, off + k, none⟩) hb).trans (hc k hlt)
        have hlit := mayB_mem hm _ (getD_mem hlt)
        have htt := textB_take hlt
        rw [← ht] at htt
        have HT := Lib.hid htt
        clear hc ha ht htt
        generalize l.getD k 0 = y at *
        obtain ⟨hy0, hy1, hy2⟩ := litB_bd hlit
        have hyl := itoa_len y hy0 hy1 hy2
        have hcall := fun W => rnumber_any y W hlit
        generalize itoa y = ty at *
        have HCall := Lib.hid hcall
        clear hcall hlit hy0
        by_cases h0 : k = 0
        · subst h0
          rw [Nat.add_zero] at hy
          go_wp2_with (go_at_call 109; refine (HCall.out _).mono ?_; rintro e w2 ⟨rfl, hb2⟩)
          go_roundw
          case rel => exact ⟨1, _, by omega, by go_num, rfl, by rw [HT.out]; simp, hbel.trans (hb2.mono hsz)⟩
          case measure => simp [intOf]; omega
        · have hk0 : (0 : Int) < (k : Int) := by omega
          have HT2 : Hid (textB (l.take (k + 1)) = (t ++ [32]) ++ ty) := by show _ = _; rw [HT.out, if_neg h0]
          clear h0 HT
          go_wp2_with (go_at_call 109; refine (HCall.out _).mono ?_; rintro e w2 ⟨rfl, hb2⟩)
          go_roundw
          case rel => exact ⟨k + 1, _, by omega, by go_num, rfl, by rw [HT2.out]; simp, hbel.trans (hb2.mono hsz)⟩
          case measure => simp [intOf]; omega
      · rw [List.take_of_length_le (by omega)] at ht
        rw [← HR.out.1] at ht
        have HTT := Lib.hid ht
        have HC := Lib.hid HR.out.2
        clear HR ht
        go_wp2
        go_ret2
        refine ⟨?_, hbel⟩
        rw [HC.out]; exact ret_strc (by rw [HTT.out]; rfl) rfl
  · have hm' : mayB l = false := by simpa using hm
    have HR : Hid (textL l = [] ∧ codeT l = 2) := by show _ ∧ _; unfold textL codeT; rw [if_neg hm, if_neg hm]; exact ⟨rfl, rfl⟩
    clear hm
    go_enter Tryd.func53, Tryd.ntmps53
    go_wp2_with (go_at_call 25; refine (rmay_v _ l _ H0).mono ?_; rintro e w1 ⟨rfl, hq1⟩)
    go_ret2
    refine ⟨?_, hq1.below _⟩
    rw [HR.out.1, HR.out.2]; exact ret_strc rfl rfl

end Go.Proofs.YtnedpngadfkmiaaDoor
