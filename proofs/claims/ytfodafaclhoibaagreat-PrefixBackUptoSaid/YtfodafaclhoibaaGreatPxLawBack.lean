/- The law PrefixBack, walked. -/
import Derived.Test.YtfodafaclhoibaaGreatPxDqbf
import Derived.Test.YtfodafaclhoibaaGreatMpQ
import Derived.Test.YtfodafaclhoibaaGreatPxHeadB
import Derived.Test.YtfodafaclhoibaaGreatPxRMayQ
import Derived.Test.YtfodafaclhoibaaGreatPxRMayD
namespace Go.Proofs.YtfodafaclhoibaaGreat
open Go.RowKit Go.Shelf Go.Lib
set_option linter.unusedVariables false
set_option linter.unusedSimpArgs false

theorem asc_blocks {P : List Blk} (hm : mayP P = true) : (P.map (fun x => (x.1, ascI x.2))).length ≤ 1024 ∧ ∀ b ∈ P.map (fun x => (x.1, ascI x.2)), b.2.length ≤ 17592186044416 ∧ In64 b.2 := by
  have h1 := mayP_len hm
  obtain ⟨_, _, hr, _⟩ := alt_may hm
  refine ⟨by rw [List.length_map]; exact h1.2, fun b hb => ?_⟩
  obtain ⟨x, hx, rfl⟩ := List.mem_map.1 hb
  refine ⟨by rw [ascI_len]; have := len_flatB hx; omega, fun v hv => ?_⟩
  have := hr v (mem_flatB hx (ascI_mem.1 hv))
  omega
theorem dq_to (vp vc : Value) (P : List Blk) (C : List (List Int)) (w : World) (HP : IsBlocks w vp P) (HC : IsRows w vc C) (hp : P.length ≤ 4000000) (hm : mayQB P C = true) :
    Calls Tryz.prog 9 #[.agg #[vp, vc]] w fun e w' => ∃ ua un uc ea en ec, e = .returned (.tuple #[.agg #[.slice ua un uc, .slice ea en ec, vc], .int .i64 0]) ∧ IsInts w' (.slice ua un uc) (dqU [] P) ∧ IsDeps w' (.slice ea en ec) (byVar (dqE [] P)) ∧ Below w.heap.size w w' :=
  (pdqbf_any vp vc P C w HP HC hp).mono fun e w' h => by
    obtain ⟨⟨_, vu, ve, rfl, hu, he⟩ | ⟨h2, _⟩, hb⟩ := h
    · obtain ⟨ua, uc, rfl, _⟩ := hu.shape
      obtain ⟨ea, ec, rfl, _⟩ := he.shape
      exact ⟨_, _, _, _, _, _, rfl, hu, he, hb⟩
    · rw [hm] at h2; cases h2
theorem dq_no (vp vc : Value) (P : List Blk) (C : List (List Int)) (w : World) (HP : IsBlocks w vp P) (HC : IsRows w vc C) (hp : P.length ≤ 4000000) (hm : mayQB P C = false) :
    Calls Tryz.prog 9 #[.agg #[vp, vc]] w fun e w' => e = .returned (.tuple #[.agg #[.slice none 0 0, .slice none 0 0, .slice none 0 0], .int .i64 2]) ∧ Below w.heap.size w w' :=
  (pdqbf_any vp vc P C w HP HC hp).mono fun e w' h => by
    obtain ⟨⟨h2, _⟩ | ⟨_, h2⟩, hb⟩ := h
    · rw [hm] at h2; cases h2
    · exact ⟨h2, hb⟩
theorem lin_to (vu ve vc : Value) (P : List Blk) (C : List (List Int)) (w : World) (HU : IsInts w vu (dqU [] P)) (HE : IsDeps w ve (byVar (dqE [] P))) (HC : IsRows w vc C) (hm : mayQB P C = true) :
    Calls Tryz.prog 11 #[.agg #[vu, ve, vc]] w fun e w' => ∃ a n c, e = .returned (.tuple #[.slice a n c, .int .i64 0]) ∧ IsBlocks w' (.slice a n c) (P.map (fun x => (x.1, ascI x.2))) ∧ Below w.heap.size w w' := by
  have hmq := hm
  unfold mayQB at hmq
  simp only [Bool.and_eq_true] at hmq
  obtain ⟨hmp, hmc, hmw⟩ := hmq
  have hmd := rows_may hmp hmc hmw
  have h64e : In64 (exOf (byVar (dqE [] P))) := by
    intro x hx
    have h1 := (mayD_ok.1 hmd).1.2.2.2.1 x (List.mem_append_right _ hx)
    omega
  refine (linearA_any vu ve vc _ _ C w HU HE HC h64e hmd).mono ?_
  rintro e w' ⟨s, hs, v, t, rfl, hst, hsh, hb⟩
  have hl : linR ((byKey s).map (fun x => (x.v, x.l))) (dqU [] P) = (P.map (fun x => (x.1, ascI x.2)), 0) := lin_back hmp hs
  rw [hl] at hsh ⊢
  simp only at hsh
  have hab := asc_blocks hmp
  have htl : t.length ≤ 1024 := by rw [← shapeT_len t, hsh]; exact hab.1
  have hbl := hst.blocks (by omega) (fun x hx => hab.2 (x.1, x.2.2) (by rw [← hsh]; exact List.mem_map.2 ⟨x, hx, rfl⟩))
  rw [hsh] at hbl
  obtain ⟨a, c, rfl⟩ := hst.shape
  exact ⟨a, _, c, rfl, hbl, hb⟩
theorem sorted_to (v : Value) (P : List Blk) (w : World) (H : IsBlocks w v P) (hm : mayP P = true) :
    Calls Tryz.prog 20 #[v] w fun e w' => ∃ a n c, e = .returned (.slice a n c) ∧ IsBlocks w' (.slice a n c) (P.map (fun x => (x.1, ascI x.2))) ∧ Below w.heap.size w w' :=
  (sorted_any v P w H hm).mono fun e w' h => by
    obtain ⟨u, t, rfl, hr, hsh⟩ := h
    have hab := asc_blocks hm
    have htl : t.length ≤ 1024 := by rw [← shapeT_len t, hsh]; exact hab.1
    have hbl := hr.blocks (by omega) (fun x hx => hab.2 (x.1, x.2.2) (by rw [← hsh]; exact List.mem_map.2 ⟨x, hx, rfl⟩))
    rw [hsh] at hbl
    obtain ⟨a, c, rfl⟩ := hr.shape
    exact ⟨a, _, c, rfl, hbl, hr.below⟩
theorem lists_yes (v u : Value) (l : List (List Int)) (w : World) (H : IsRows w v l) (K : IsRows w u l) : Calls Tryz.prog 21 #[v, u] w fun e w' => e = .returned (.bool true) ∧ Below w.heap.size w w' :=
  (lists_any v u l l w H K).mono fun e w' h => ⟨by rw [h.1]; simp [sameB], h.2.below _⟩

theorem box3 {w2 w4 : World} {v0 v1 v2 : Value} (hb4 : Below (w2.alloc (.cells #[v0, v1, v2] 29)).heap.size (w2.alloc (.cells #[v0, v1, v2] 29)) w4) :
    Below w2.heap.size w2 w4 ∧ ∀ X, Below w4.heap.size w4 X → X.cell? ⟨w2.heap.size, 0, none⟩ = some v0 ∧ X.cell? ⟨w2.heap.size, 1, none⟩ = some v1 ∧ X.cell? ⟨w2.heap.size, 2, none⟩ = some v2 := by
  have h1 : Below w2.heap.size w2 (w2.alloc (.cells #[v0, v1, v2] 29)) := (Below.refl _ _).alloc (Nat.le_refl _) _
  have h2 := hb4.size
  simp only [World.alloc, Array.size_push] at h2
  have key : ∀ X, Below w4.heap.size w4 X → ∀ i v, (#[v0, v1, v2] : Array Value)[i]? = some v → X.cell? ⟨w2.heap.size, i, none⟩ = some v := fun X hX i v hv =>
    (hX.cell (p := ⟨w2.heap.size, i, none⟩) (by simp only; omega)).trans ((hb4.cell (p := ⟨w2.heap.size, i, none⟩) (by simp)).trans (cell_fresh hv))
  exact ⟨h1.trans (hb4.mono h1.size), fun X hX => ⟨key X hX 0 _ rfl, key X hX 1 _ rfl, key X hX 2 _ rfl⟩⟩

set_option maxRecDepth 100000 in
set_option maxHeartbeats 6400000 in
theorem back_any (vp vc : Value) (P : List Blk) (C : List (List Int)) (w : World) (HP : IsBlocks w vp P) (HC : IsRows w vc C) (hq : P.length + totT P + (C.length + tot C) ≤ 4000000) :
    Calls Tryz.prog 4 #[.agg #[vp, vc]] w fun e w' => e = .returned (.bool true) ∧ Below w.heap.size w w' := by
  obtain ⟨W, hW⟩ : ∃ W, w.alloc (.cells #[vp, vc] 25) = W := ⟨_, rfl⟩
  have hb0 : Below w.heap.size w W := by rw [← hW]; exact (Below.refl w.heap.size w).alloc (Nat.le_refl _) _
  have hz : W.heap.size = w.heap.size + 1 := by rw [← hW]; simp
  have c0 : ∀ i v, (#[vp, vc] : Array Value)[i]? = some v → W.cell? ⟨w.heap.size, i, none⟩ = some v := fun i v h => by rw [← hW]; exact cell_fresh h
  have HY : Hid (∀ X, Below W.heap.size W X → X.cell? ⟨w.heap.size, 0, none⟩ = some vp ∧ X.cell? ⟨w.heap.size, 1, none⟩ = some vc) := fun X hX =>
    ⟨(hX.cell (p := ⟨w.heap.size, 0, none⟩) (by simp; omega)).trans (c0 0 _ rfl), (hX.cell (p := ⟨w.heap.size, 1, none⟩) (by simp; omega)).trans (c0 1 _ rfl)⟩
  have HB0 := Lib.hid hb0
  have HUP : Hid (∀ X, Below W.heap.size W X → IsBlocks X vp P ∧ IsRows X vc C) := fun X hX => by
    have h := hb0.trans (hX.mono hb0.size)
    exact ⟨HP.below h (Nat.le_refl _), HC.below h (Nat.le_refl _)⟩
  have hi64 := blocks_i64 HP
  have hpf : (flatB P).length ≤ 4000000 := by rw [flat_totT]; omega
  have HWI := Lib.hid (wide_any vp vc P C 1200 W (HUP.out W (Below.refl _ _)).1 (HUP.out W (Below.refl _ _)).2 (by omega))
  have HRM : Hid (∀ X, Below W.heap.size W X → Calls Tryz.prog 18 #[.agg #[vp, vc]] X fun e w' => e = .returned (.bool (mayQB P C)) ∧ Below X.heap.size X w') := fun X hX => rmayq_any vp vc P C X (HUP.out X hX).1 (HUP.out X hX).2 (by omega) hpf hi64 (by omega)
  obtain ⟨pa, pc, rfl, _⟩ := HP.shape
  obtain ⟨ra, rk, rfl, _⟩ := HC.shape
  obtain ⟨y0, y1⟩ := HY.out W (Below.refl _ _)
  have HPN : Hid (P.length ≤ 4000000) := by show _ ≤ _; omega
  clear c0 hb0 HP HC hi64 hpf
  generalize wideB 1200 P C = b1 at *
  cases b1 with
  | true =>
    go_enter Tryz.func4, Tryz.ntmps4
    go_wp2_with (first
      | (go_at_call 6; refine HWI.out.mono ?_; rintro e w1 ⟨rfl, rfl⟩)
      | (go_at_call 8; refine (head_any _).mono ?_; rintro e w2 ⟨rfl, hb2⟩))
    go_ret
    exact ⟨rfl, HB0.out.trans (hb2.mono HB0.out.size)⟩
  | false =>
    cases hm : mayQB P C with
    | false =>
      rw [hm] at HRM
      have HDQ := Lib.hid (dq_no _ _ P C W (HUP.out W (Below.refl _ _)).1 (HUP.out W (Below.refl _ _)).2 HPN.out hm)
      clear hm hq
      go_enter Tryz.func4, Tryz.ntmps4
      go_wp2_with (first
        | (go_at_call 6; refine HWI.out.mono ?_; rintro e w1 ⟨rfl, rfl⟩)
        | (go_at_call 9; refine HDQ.out.mono ?_; rintro e w2 ⟨rfl, hb2⟩; have hb3 := hb2.alloc hb2.size (.cells #[.slice none 0 0, .slice none 0 0, .slice none 0 0] 29); obtain ⟨u0, u1⟩ := HY.out _ hb3; have e0 : (w2.alloc (.cells #[.slice none 0 0, .slice none 0 0, .slice none 0 0] 29)).cell? ⟨w2.heap.size, 0, none⟩ = some (.slice none 0 0) := cell_fresh rfl)
        | (go_at_call 18; refine (HRM.out _ hb3).mono ?_; rintro e w4 ⟨rfl, hb4⟩; have HB4 := Lib.hid (hb3.trans (hb4.mono hb3.size)); have z0 := (hb4.cell (p := ⟨w2.heap.size, 0, none⟩) (by simp)).trans (cell_fresh (v := .slice none 0 0) rfl); have z1 := (hb4.cell (p := ⟨w2.heap.size, 1, none⟩) (by simp)).trans (cell_fresh (v := .slice none 0 0) rfl); have z2 := (hb4.cell (p := ⟨w2.heap.size, 2, none⟩) (by simp)).trans (cell_fresh (v := .slice none 0 0) rfl))
        | (go_at_call 8; refine (head_any _).mono ?_; rintro e w5 ⟨rfl, hb5⟩))
      go_ret
      exact ⟨rfl, HB0.out.trans ((HB4.out.trans (hb5.mono HB4.out.size)).mono HB0.out.size)⟩
    | true =>
      rw [hm] at HRM
      have HDQ := Lib.hid (dq_to _ _ P C W (HUP.out W (Below.refl _ _)).1 (HUP.out W (Below.refl _ _)).2 HPN.out hm)
      have HMQ := Lib.hid hm
      have hmq := hm
      unfold mayQB at hmq
      simp only [Bool.and_eq_true] at hmq
      have HMP := Lib.hid hmq.1
      have hmd := rows_may hmq.1 hmq.2.1 hmq.2.2
      have HMD : Hid (∀ (X : World) (vu ve : Value), Below W.heap.size W X → IsInts X vu (dqU [] P) → IsDeps X ve (byVar (dqE [] P)) → Calls Tryz.prog 19 #[.agg #[vu, ve, .slice ra C.length rk]] X fun e w' => e = .returned (.bool true) ∧ Below X.heap.size X w') := fun X vu ve hX hU hE => by
        have ho := (mayD_ok.1 hmd).1
        have hl := ho.2.2.2.2
        rw [List.length_append, exOf_len] at hl
        have := rmayd_any vu ve (.slice ra C.length rk) _ _ C X hU hE (HUP.out X hX).2 (by omega) (by omega) (fun x hx => by
          have := ho.2.2.2.1 x (List.mem_append_right _ hx)
          omega)
        rw [hmd] at this
        exact this
      clear hm hq hmq hmd
      go_enter Tryz.func4, Tryz.ntmps4
      go_wp2_with (first
        | (go_at_call 6; refine HWI.out.mono ?_; rintro e w1 ⟨rfl, rfl⟩)
        | (go_at_call 9; refine HDQ.out.mono ?_; rintro e w2 ⟨ua, un, uc, ea, en, ec, rfl, hu2, he2, hb2⟩; have hb3 := hb2.alloc hb2.size (.cells #[.slice ua un uc, .slice ea en ec, .slice ra C.length rk] 29); obtain ⟨u0, u1⟩ := HY.out _ hb3; have HU3 := Lib.hid hu2; have HE3 := Lib.hid he2; clear hu2 he2)
        | (go_at_call 18; refine (HRM.out _ hb3).mono ?_; rintro e w4 ⟨rfl, hb4⟩; have HB4 := Lib.hid (hb3.trans (hb4.mono hb3.size)); have HBD : Hid (Below w2.heap.size w2 w4 ∧ ∀ X, Below w4.heap.size w4 X → X.cell? ⟨w2.heap.size, 0, none⟩ = some (.slice ua un uc) ∧ X.cell? ⟨w2.heap.size, 1, none⟩ = some (.slice ea en ec) ∧ X.cell? ⟨w2.heap.size, 2, none⟩ = some (.slice ra C.length rk)) := box3 hb4; obtain ⟨z0, z1, z2⟩ := HBD.out.2 w4 (Below.refl _ _))
        | (go_at_call 11; refine (lin_to _ _ _ P C w4 (HU3.out.below HBD.out.1 (Nat.le_refl _)) (HE3.out.below HBD.out.1 (Nat.le_refl _)) (HUP.out w4 HB4.out).2 HMQ.out).mono ?_; rintro e w5 ⟨la, ln, lc, rfl, hl5, hb5⟩; have HL5 := Lib.hid hl5; clear hl5; have HB5 := Lib.hid (HB4.out.trans (hb5.mono HB4.out.size)); obtain ⟨z3, z4, z5⟩ := HBD.out.2 w5 hb5; have HK5 := Lib.hid (HBD.out.1.trans (hb5.mono HBD.out.1.size)))
        | (go_at_call 19; refine (HMD.out w5 _ _ HB5.out (HU3.out.below HK5.out (Nat.le_refl _)) (HE3.out.below HK5.out (Nat.le_refl _))).mono ?_; rintro e w6 ⟨rfl, hb6⟩; have HB6 := Lib.hid (HB5.out.trans (hb6.mono HB5.out.size)); obtain ⟨t0, t1⟩ := HY.out w6 HB6.out)
        | (go_at_call 20; refine (sorted_to _ P w6 (HUP.out w6 HB6.out).1 HMP.out).mono ?_; rintro e w7 ⟨sa, sn, sc, rfl, hs7, hb7⟩; have HS7 := Lib.hid hs7; clear hs7; have HB7 := Lib.hid (HB6.out.trans (hb7.mono HB6.out.size)); have HL7 := Lib.hid (HL5.out.below (hb6.trans (hb7.mono hb6.size)) (Nat.le_refl _)); have HB57 := Lib.hid (hb5.trans ((hb6.trans (hb7.mono hb6.size)).mono hb5.size)))
        | (go_at_call 16; refine (same_yes _ _ _ w7 HL7.out HS7.out).mono ?_; rintro e w8 ⟨rfl, hb8⟩; have HB8 := Lib.hid (HB7.out.trans (hb8.mono HB7.out.size)); obtain ⟨t2, t3⟩ := HY.out w8 HB8.out; obtain ⟨z6, z7, z8⟩ := HBD.out.2 w8 (HB57.out.trans (hb8.mono HB57.out.size)))
        | (go_at_call 21; refine (lists_yes _ _ C w8 (HUP.out w8 HB8.out).2 (HUP.out w8 HB8.out).2).mono ?_; rintro e w9 ⟨rfl, hb9⟩; have HB9 := Lib.hid (HB8.out.trans (hb9.mono HB8.out.size)))
        | (go_at_call 8; refine (head_any _).mono ?_; rintro e w10 ⟨rfl, hb10⟩))
      go_ret
      exact ⟨rfl, HB0.out.trans ((HB9.out.trans (hb10.mono HB9.out.size)).mono HB0.out.size)⟩
end Go.Proofs.YtfodafaclhoibaaGreat
