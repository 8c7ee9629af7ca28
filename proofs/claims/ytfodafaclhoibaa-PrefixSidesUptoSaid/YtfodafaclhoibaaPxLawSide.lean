/- The law PrefixSides, walked. -/
import Derived.Test.YtfodafaclhoibaaPxLawReds
import Derived.Test.YtfodafaclhoibaaPxSideP
namespace Go.Proofs.Ytfodafaclhoibaa
open Go.RowKit
set_option linter.unusedVariables false
set_option linter.unusedSimpArgs false

theorem on_to (vp : Value) (p : List Blk) (v : Int) (xs : List Int) (w : World) (HP : IsBlocks w vp p) (hp : p.length ≤ 4000000) (h : onL p v = (xs, 0)) (hl : xs.length ≤ 1024) (hx : ∀ z ∈ xs, 1 ≤ z ∧ z ≤ 65536) :
    Calls Try.prog 38 #[vp, .int .i64 v] w fun e w' => ∃ a c, e = .returned (.tuple #[.slice a xs.length c, .int .i64 0]) ∧ IsInts w' (.slice a xs.length c) xs ∧ Below w.heap.size w w' := by
  refine (on_any vp p v w HP hp).mono ?_
  rintro e w' ⟨u, rfl, ho, hb⟩
  rw [h] at ho ⊢
  simp only at ho
  have hi := ho.ints (by omega) (fun z hz => by have := hx z hz; omega)
  obtain ⟨a, c, rfl⟩ := hi.shape
  exact ⟨a, c, rfl, hi, hb⟩
theorem join_to (vp : Value) (p : List Blk) (w : World) (HP : IsBlocks w vp p) (hm : mayP p = true) :
    Calls Try.prog 30 #[vp] w fun e w' => ∃ a c, e = .returned (.tuple #[.slice a p.length c, .int .i64 0]) ∧ IsBlocks w' (.slice a p.length c) p ∧ Below w.heap.size w w' := by
  have hl := mayP_len hm
  refine (join1_any vp p w HP (by omega)).mono ?_
  rintro e w' ⟨v, t, rfl, hst, hsh, hb⟩
  rw [joinL_may hm] at hsh ⊢
  simp only at hsh
  have hR : RowB w w' w.heap.size v t := ⟨hb, Nat.le_refl _, hst.row, fun x hx => .inl (hst.owns x hx)⟩
  have hm' := hm
  unfold mayP at hm'
  rw [decide_eq_true_eq] at hm'
  have hlen : t.length = p.length := by rw [← shapeT_len t, hsh]
  have h1 := hR.blocks (by omega) (fun x hx => by
    have hx2 : (x.1, x.2.2) ∈ p := by rw [← hsh]; exact List.mem_map.2 ⟨x, hx, rfl⟩
    refine ⟨by have := len_flatB hx2; simp only at this; omega, fun y hy => ?_⟩
    have := hm'.2.2.1 y (mem_flatB hx2 hy)
    omega)
  rw [hsh] at h1
  obtain ⟨a, c, rfl⟩ := hst.shape
  have e : t.length = p.length := by rw [← shapeT_len t, hsh]
  rw [e] at h1 ⊢
  exact ⟨a, c, rfl, h1, hb⟩

set_option maxRecDepth 100000 in
set_option maxHeartbeats 3200000 in
theorem sides_any (vp : Value) (p : List Blk) (i k : Nat) (w : World) (hi : i ≤ 65535) (hk : k ≤ 65535) (HP : IsBlocks w vp p) (hp : p.length + totT p ≤ 1048576) :
    Calls Try.prog 6 #[vp, .int .u16 (i : Int), .int .u16 (k : Int)] w fun e w' => e = .returned (.bool true) ∧ Below w.heap.size w w' := by
  have hfl : (flatB p).length ≤ 1048576 := by rw [flat_totT]; omega
  have HWD := Lib.hid (wide_any vp (.slice none 0 0) p [] 300 w HP (IsRows.nil w) (by simp [tot]; omega))
  have HMY := Lib.hid (rmay_any vp p w HP (by omega) (by omega) (blocks_i64 HP))
  have H64 := Lib.hid (blocks_i64 HP)
  have HPP := Lib.hid HP
  obtain ⟨pa, pc, rfl, hpl⟩ := HP.shape
  have HFL := Lib.hid hfl
  have HBD := Lib.hid hp
  clear HP hp hfl
  cases hwd : wideB 300 p [] with
  | true =>
    rw [hwd] at HWD
    clear hwd
    go_enter Try.func6, Try.ntmps6
    go_wp2_with (first
      | (go_at_call 16; refine HWD.out.mono ?_; rintro e w1 ⟨rfl, rfl⟩)
      | (go_at_call 18; refine (head_any _).mono ?_; rintro e w2 ⟨rfl, hb2⟩))
    go_ret
    exact ⟨rfl, hb2⟩
  | false =>
    rw [hwd] at HWD
    clear hwd
    cases hm : mayP p with
    | false =>
      rw [hm] at HMY
      clear hm
      go_enter Try.func6, Try.ntmps6
      go_wp2_with (first
        | (go_at_call 16; refine HWD.out.mono ?_; rintro e w1 ⟨rfl, rfl⟩)
        | (go_at_call 20; refine HMY.out.mono ?_; rintro e w1 ⟨rfl, hb1⟩)
        | (go_at_call 18; refine (head_any _).mono ?_; rintro e w2 ⟨rfl, hb2⟩))
      go_ret
      exact ⟨rfl, hb1.trans (hb2.mono hb1.size)⟩
    | true =>
      rw [hm] at HMY
      have HM := Lib.hid hm
      clear hm
      by_cases h0 : p.length = 0
      · have h0' : ((p.length : Int) == 0) = true := by simpa using h0
        clear h0
        go_enter Try.func6, Try.ntmps6
        go_wp2_with (first
          | (go_at_call 16; refine HWD.out.mono ?_; rintro e w1 ⟨rfl, rfl⟩)
          | (go_at_call 20; refine HMY.out.mono ?_; rintro e w1 ⟨rfl, hb1⟩)
          | (go_at_call 18; refine (head_any _).mono ?_; rintro e w2 ⟨rfl, hb2⟩))
        go_ret
        exact ⟨rfl, hb1.trans (hb2.mono hb1.size)⟩
      · have h0' : ((p.length : Int) == 0) = false := by simpa using h0
        have hn : 0 < (flatB p).length := by
          have hm' := HM.out
          unfold mayP at hm'
          rw [decide_eq_true_eq] at hm'
          have h1 := (hm'.1 0 (by omega)).1
          have hg : p.getD 0 dB = p[0]'(by omega) := by simp [List.getD, show 0 < p.length by omega]
          have hmem : p.getD 0 dB ∈ p := by rw [hg]; exact List.getElem_mem _
          have h2 := len_flatB hmem
          have h3 : 0 < (p.getD 0 dB).2.length := List.length_pos_iff.2 h1
          omega
        have HFT := Lib.hid (fun (X : World) (hb : Below w.heap.size w X) => flat_any (.slice pa p.length pc) p X (HPP.out.below hb (Nat.le_refl _)) (by have := HFL.out; omega))
        have hr1 : i % (flatB p).length < (flatB p).length := Nat.mod_lt _ hn
        have hr2 : k % (flatB p).length < (flatB p).length := Nat.mod_lt _ hn
        have HSF := Lib.hid (sides_fact HM.out (a := (flatB p).getD (i % (flatB p).length) 0) (b := (flatB p).getD (k % (flatB p).length) 0) (getD_mem hr1) (getD_mem hr2))
        have e1 : (i : Int).tmod ((flatB p).length : Int) = ((i % (flatB p).length : Nat) : Int) := by rw [Int.ofNat_tmod]
        have e2 : (k : Int).tmod ((flatB p).length : Int) = ((k % (flatB p).length : Nat) : Int) := by rw [Int.ofNat_tmod]
        have hfl := HFL.out
        have H64' := H64.out
        have R1 : Hid (Int.tmod (i : Int) ((flatB p).length : Int) = ((i % (flatB p).length : Nat) : Int)) := e1
        have R2 : Hid (Int.tmod (k : Int) ((flatB p).length : Int) = ((k % (flatB p).length : Nat) : Int)) := e2
        clear e1 e2 H64 HFL
        generalize i % (flatB p).length = r1 at *
        generalize k % (flatB p).length = r2 at *
        have h64 := Lib.hid H64'
        clear H64'
        generalize flatB p = l at *
        clear h0
        go_enter Try.func6, Try.ntmps6
        go_upto_region 4 with (first
          | (go_at_call 16; refine HWD.out.mono ?_; rintro e w0 ⟨rfl, rfl⟩)
          | (go_at_call 20; refine HMY.out.mono ?_; rintro e w1 ⟨rfl, hb1⟩)
          | (go_at_call 29; refine (HFT.out w1 hb1).mono ?_; rintro e w2 ⟨u2, rfl, ho2, hb2⟩; have hi2 := ho2.ints (by omega) h64.out; obtain ⟨a2, c2, rfl⟩ := hi2.shape))
        have HB2 := Lib.hid (hb1.trans (hb2.mono hb1.size))
        obtain ⟨b, off, rfl, _, ca⟩ := hi2.cellX hr1
        obtain ⟨b', off', e', _, cb⟩ := hi2.cellX hr2
        injection e' with e'
        injection e' with e1 e2 _
        subst e1
        subst e2
        have hA64 := h64.out.at r1 hr1
        have hB64 := h64.out.at r2 hr2
        obtain ⟨s, t, β, γ, A, B, xs, ys, hS⟩ := HSF.out
        generalize l.getD r1 0 = x at *
        generalize l.getD r2 0 = y at *
        have ha1 := hA64.1
        have ha2 := hA64.2
        have hb3 := hB64.1
        have hb4 := hB64.2
        have e1 := R1.out
        have e2 := R2.out
        have q1 : (0 : Int) ≤ (r1 : Int) := by omega
        have q2 : (r1 : Int) < (l.length : Int) := by omega
        have q3 : (0 : Int) ≤ (r2 : Int) := by omega
        have q4 : (r2 : Int) < (l.length : Int) := by omega
        have q5 : ¬ (l.length : Int) = 0 := by omega
        clear hA64 hB64 hb1 hb2 hi2 ho2 HWD HMY HFT HSF R1 R2
        have UP : Hid (∀ n X, Below (w2.drewN n).heap.size (w2.drewN n) X → IsBlocks X (.slice pa p.length pc) p) := fun n X hX =>
          HPP.out.below (HB2.out.trans (((Quiet.drewN (Quiet.refl w2) n).below w2.heap.size |>.trans (hX.mono (Nat.le_refl _))).mono HB2.out.size)) (Nat.le_refl _)
        have cs : (s = true ∧ t = true ∧ β = false ∧ γ = false) ∨ (s = false ∧ t = false ∧ β = false ∧ γ = false) ∨ (s = true ∧ t = false ∧ β = true ∧ γ = false) ∨ (s = true ∧ t = false ∧ β = false ∧ γ = true) ∨ (s = false ∧ t = true ∧ β = true ∧ γ = false) ∨ (s = false ∧ t = true ∧ β = false ∧ γ = true) := by
          rcases Bool.eq_false_or_eq_true s with h | h <;> rcases Bool.eq_false_or_eq_true t with h' | h'
          · have := hS.eq (by rw [h, h']); exact .inl ⟨h, h', this⟩
          · rcases hS.ne (by rw [h, h']; simp) with k | k
            · exact .inr (.inr (.inl ⟨h, h', k⟩))
            · exact .inr (.inr (.inr (.inl ⟨h, h', k⟩)))
          · rcases hS.ne (by rw [h, h']; simp) with k | k
            · exact .inr (.inr (.inr (.inr (.inl ⟨h, h', k⟩))))
            · exact .inr (.inr (.inr (.inr (.inr ⟨h, h', k⟩))))
          · have := hS.eq (by rw [h, h']); exact .inr (.inl ⟨h, h', this⟩)
        have hpl2 : p.length ≤ 4000000 := by have := HBD.out; omega
        have HOA := Lib.hid (fun (X : World) (H : IsBlocks X (.slice pa p.length pc) p) => on_to _ p x xs X H hpl2 hS.oa hS.lx hS.ix)
        have HOB := Lib.hid (fun (X : World) (H : IsBlocks X (.slice pa p.length pc) p) => on_to _ p y ys X H hpl2 hS.ob hS.ly hS.iy)
        have HFA := Lib.hid (fun (X : World) (H : IsBlocks X (.slice pa p.length pc) p) => find_is _ p x X H hS.fa)
        have HFB := Lib.hid (fun (X : World) (H : IsBlocks X (.slice pa p.length pc) p) => find_is _ p y X H hS.fb)
        have HHA : Hid (∀ X v, IsInts X v xs → Calls Try.prog 40 #[v, .int .i64 y] X fun e w' => e = .returned (.bool β) ∧ X = w') := fun X v H => by
          have := has3_any v xs y X H hb3 hb4
          rw [hS.ha] at this
          exact this
        have HHB : Hid (∀ X v, IsInts X v ys → Calls Try.prog 40 #[v, .int .i64 x] X fun e w' => e = .returned (.bool γ) ∧ X = w') := fun X v H => by
          have := has3_any v ys x X H ha1 ha2
          rw [hS.hb] at this
          exact this
        have HJ := Lib.hid (fun (X : World) (H : IsBlocks X (.slice pa p.length pc) p) => join_to _ p X H HM.out)
        clear hS
        go_wp2_with fail
        go_quiet (fail)
        clear e1 e2 ca cb q1 q2 q3 q4 q5 hr1 hr2
        rcases cs with ⟨rfl, rfl, rfl, rfl⟩ | ⟨rfl, rfl, rfl, rfl⟩ | ⟨rfl, rfl, rfl, rfl⟩ | ⟨rfl, rfl, rfl, rfl⟩ | ⟨rfl, rfl, rfl, rfl⟩ | ⟨rfl, rfl, rfl, rfl⟩
        all_goals
          go_wp2_with (first
            | (go_at_call 18; refine (head_any _).mono ?_; rintro e z9 ⟨rfl, g9⟩)
            | (go_at_call 26; refine (same_yes _ _ p z7 hj7 ((UP.out _ z3 g03).below (g4.trans ((g5.trans ((g6.trans (g7.mono g6.size)).mono g5.size)).mono g4.size)) (Nat.le_refl _))).mono ?_; rintro e z8 ⟨rfl, g8⟩)
            | (go_at_call 30; refine (HJ.out z6 ((UP.out _ z3 g03).below (g4.trans ((g5.trans (g6.mono g5.size)).mono g4.size)) (Nat.le_refl _))).mono ?_; rintro e z7 ⟨ja, jc, rfl, hj7, g7⟩)
            | (go_at_call_of 40 (Value.int .i64 x); refine (HHB.out _ _ (hi4.below (g5.trans (g6.mono g5.size)) (Nat.le_refl _))).mono ?_; rintro e z ⟨rfl, rfl⟩)
            | (go_at_call_of 40 (Value.int .i64 y); refine (HHA.out _ _ (hi3.below (g4.trans ((g5.trans (g6.mono g5.size)).mono g4.size)) (Nat.le_refl _))).mono ?_; rintro e z ⟨rfl, rfl⟩)
            | (go_at_call_of 39 (Value.int .i64 y); refine (HFB.out z5 ((UP.out _ z3 g03).below (g4.trans (g5.mono g4.size)) (Nat.le_refl _))).mono ?_; rintro e z6 ⟨rfl, g6⟩)
            | (go_at_call_of 39 (Value.int .i64 x); refine (HFA.out z4 ((UP.out _ z3 g03).below g4 (Nat.le_refl _))).mono ?_; rintro e z5 ⟨rfl, g5⟩)
            | (go_at_call_of 38 (Value.int .i64 y); refine (HOB.out z3 (UP.out _ z3 g03)).mono ?_; rintro e z4 ⟨a4, c4, rfl, hi4, g4⟩)
            | (go_at_call_of 38 (Value.int .i64 x); refine (HOA.out _ (UP.out _ _ (Below.refl _ _))).mono ?_; rintro e z3 ⟨a3, c3, rfl, hi3, g03⟩))
          go_ret
          exact ⟨rfl, HB2.out.trans (((Quiet.drewN (Quiet.refl w2) _).below w2.heap.size |>.trans (g03.trans ((g4.trans ((g5.trans ((g6.trans ((g7.trans ((g8.trans (g9.mono g8.size)).mono g7.size)).mono g6.size)).mono g5.size)).mono g4.size)).mono g03.size))).mono HB2.out.size)⟩
end Go.Proofs.Ytfodafaclhoibaa
