/- prefix.Dqbf. -/
import Derived.Test.YtmiijgjpkkmoaaaGreatMpP
import Derived.Test.YtmiijgjpkkmoaaaGreatMpE
import Derived.Test.YtmiijgjpkkmoaaaGreatMpH
import Derived.Test.YtmiijgjpkkmoaaaGreatPxLawReds
namespace Go.Proofs.YtmiijgjpkkmoaaaGreat
open Go.RowKit Go.Shelf Go.Lib Go.Sort
set_option linter.unusedVariables false
set_option linter.unusedSimpArgs false

theorem DqSt.sort {W : World} {bx : Nat} {vc : Value} {X Y : World} {vu ve : Value} {U U' : List Int} {s : List DepV} (h : DqSt W bx vc X vu ve U s) (hY : Own Y W.heap.size vu U') (hg : Kept (fun k => vu.ownBlock = some k) X Y) : DqSt W bx vc Y vu ve U' s := by
  have hB : ∀ i, i < W.heap.size → ¬ (vu.ownBlock = some i) := fun i hi e => by
    have := (h.univ.lt i e).1
    omega
  exact ⟨h.box.keptS hg hB h.nu, hY, rowE_keptS h.rows hg hB (fun g hg2 e => rowE_ne h.rows.row h.univ g e hg2) (fun x hx g hg2 => h.sep x hx g hg2), h.sep⟩
theorem DqSt.free {W : World} {bx : Nat} {vc : Value} {X Y : World} {vu ve v' : Value} {U : List Int} {s : List DepV} (h : DqSt W bx vc X vu ve U s) (hg : X.grownBy Y vu.ownBlock) : Y.cell? ⟨bx, 0, none⟩ = some vu ∧ Y.frozen? ⟨bx, 0, none⟩ = false := by
  have b1 := h.box.keptS (Kept.of_grown hg) (fun i hi e => by have := (h.univ.lt i e).1; omega) h.nu
  exact ⟨b1.cell rfl, b1.free 0⟩
def DqPost (w : World) (P : List Blk) (C : List (List Int)) (vc : Value) (e : Ending) (w' : World) : Prop :=
  ((mayQB P C = true ∧ ∃ vu ve, e = .returned (.tuple #[.agg #[vu, ve, vc], .int .i64 0]) ∧ IsInts w' vu (dqU [] P) ∧ IsDeps w' ve (byVar (dqE [] P))) ∨
   (mayQB P C = false ∧ e = .returned (.tuple #[.agg #[.slice none 0 0, .slice none 0 0, .slice none 0 0], .int .i64 2]))) ∧ Below w.heap.size w w'
theorem SBox.drew {W : World} {b : Nat} {cs : Array Value} {T : TypeId} {X : World} (h : SBox W b cs T X) : SBox W b cs T X.drew := ⟨h.1.drew, h.2.1, h.2.2⟩
theorem own_shape3 {w : World} {B : Nat} {v : Value} {xs : List Int} (h : Own w B v xs) : ∃ a n c, v = .slice a n c := by
  obtain ⟨a, c, e⟩ := h.shapeA
  exact ⟨a, _, c, e⟩
theorem dq_full {P : List Blk} {b : Option Bool} (h : altOk b P) : ∀ x ∈ P, x.2 ≠ [] := by
  induction P generalizing b with
  | nil => intro x hx; cases hx
  | cons y r ih =>
    obtain ⟨e, vs⟩ := y
    intro x hx
    rcases List.mem_cons.1 hx with rfl | hx
    · exact h.1
    · exact ih h.2.2 x hx
theorem dqU_sub : ∀ (P : List Blk) (U : List Int), (dqU U P).length + (exOf (dqE U P)).length = U.length + (flatB P).length := fun P U => by
  have := (dq_perm P U).length_eq
  rw [List.length_append, List.length_append] at this
  exact this
theorem dqE_small : ∀ (P : List Blk) (U : List Int) (x : Int × List Int), x ∈ dqE U P → U.length + (flatB P).length ≤ 1024 → In64 (U ++ flatB P) → x.2.length ≤ 1024 ∧ In64 x.2
  | [], U, x, hx, _, _ => by cases hx
  | (false, vs) :: P, U, x, hx, hl, h64 => by
    rw [flat_cons] at hl h64
    refine dqE_small P (ascI (U ++ vs)) x hx (by rw [ascI_len, List.length_append]; rw [List.length_append] at hl; simp only at hl; omega) (fun v hv => h64 v ?_)
    rcases List.mem_append.1 hv with hv | hv
    · rcases List.mem_append.1 (ascI_mem.1 hv) with hv | hv
      · exact List.mem_append_left _ hv
      · exact List.mem_append_right _ (List.mem_append_left _ hv)
    · exact List.mem_append_right _ (List.mem_append_right _ hv)
  | (true, vs) :: P, U, x, hx, hl, h64 => by
    rw [flat_cons] at hl h64
    rw [List.length_append] at hl
    rcases List.mem_append.1 (show x ∈ vs.map (fun v => (v, U)) ++ dqE U P from hx) with hx | hx
    · obtain ⟨v, _, rfl⟩ := List.mem_map.1 hx
      exact ⟨by simp only; omega, fun v hv => h64 v (List.mem_append_left _ hv)⟩
    · refine dqE_small P U x hx (by omega) (fun v hv => h64 v ?_)
      rcases List.mem_append.1 hv with hv | hv
      · exact List.mem_append_left _ hv
      · exact List.mem_append_right _ (List.mem_append_right _ hv)
theorem dq_small {P : List Blk} (h : (flatB P).Nodup ∧ (∀ v ∈ flatB P, 1 ≤ v ∧ v ≤ 65536) ∧ (flatB P).length ≤ 1024) {k : Nat} (hk : k < P.length) :
    (dqU [] (P.take k)).length + (exOf (dqE [] (P.take k))).length + (P.getD k dB).2.length ≤ 1024 := by
  have h1 := dqU_sub (P.take k) []
  have h2 : flatB (P.take k) ++ (P.getD k dB).2 <+: flatB P := by
    have := flat_prefix (d := dB) hk (P.getD k dB).2.length
    rwa [List.take_length] at this
  have h3 := h2.length_le
  rw [List.length_append] at h3
  simp only [List.length_nil] at h1
  omega
theorem dqbf_zero (b : Nat) (w : World) (h : w.heap[b]? = some (.cells #[.slice none 0 0, .slice none 0 0, .slice none 0 0] 29 (0, 0))) : w.cell? ⟨b, 0, none⟩ = some (.slice none 0 0) ∧ w.cell? ⟨b, 1, none⟩ = some (.slice none 0 0) ∧ w.cell? ⟨b, 2, none⟩ = some (.slice none 0 0) ∧ w.frozen? ⟨b, 0, none⟩ = false ∧ w.frozen? ⟨b, 1, none⟩ = false ∧ w.frozen? ⟨b, 2, none⟩ = false := by
  refine ⟨?_, ?_, ?_, ?_, ?_, ?_⟩ <;> simp [World.cell?, World.frozen?, h]
theorem dqbf_set (b : Nat) (w : World) (x y z u v t : Value) (h : w.cell? ⟨b, 0, none⟩ = some x) (k : w.cell? ⟨b, 1, none⟩ = some y) (j : w.cell? ⟨b, 2, none⟩ = some z) :
    (((w.setCell ⟨b, 0, none⟩ u).setCell ⟨b, 1, none⟩ v).setCell ⟨b, 2, none⟩ t).cell? ⟨b, 0, none⟩ = some u ∧ (((w.setCell ⟨b, 0, none⟩ u).setCell ⟨b, 1, none⟩ v).setCell ⟨b, 2, none⟩ t).cell? ⟨b, 1, none⟩ = some v ∧ (((w.setCell ⟨b, 0, none⟩ u).setCell ⟨b, 1, none⟩ v).setCell ⟨b, 2, none⟩ t).cell? ⟨b, 2, none⟩ = some t := by
  have k2 : (w.setCell ⟨b, 0, none⟩ u).cell? ⟨b, 1, none⟩ = some y := (World.cell?_setCell_other w _ _ u (by simp)).trans k
  have j2 : ((w.setCell ⟨b, 0, none⟩ u).setCell ⟨b, 1, none⟩ v).cell? ⟨b, 2, none⟩ = some z := (World.cell?_setCell_other _ _ _ v (by simp)).trans ((World.cell?_setCell_other w _ _ u (by simp)).trans j)
  refine ⟨?_, ?_, World.cell?_setCell_same _ _ t j2⟩
  · rw [World.cell?_setCell_other _ _ _ t (by simp), World.cell?_setCell_other _ _ _ v (by simp)]
    exact World.cell?_setCell_same w _ u h
  · rw [World.cell?_setCell_other _ _ _ t (by simp)]
    exact World.cell?_setCell_same _ _ v k2

theorem kept_set3 (b : Nat) (w : World) (u v t : Value) : Kept (fun k => k = b) w (((w.setCell ⟨b, 0, none⟩ u).setCell ⟨b, 1, none⟩ v).setCell ⟨b, 2, none⟩ t) :=
  ((Kept.setCell w ⟨b, 0, none⟩ u).trans (Kept.setCell _ ⟨b, 1, none⟩ v)).trans (Kept.setCell _ ⟨b, 2, none⟩ t)
theorem holds_kept {S : Nat → Prop} {w w' : World} {g : Nat} {d : Array DepV} (h : HoldsK encD 2 w g 0 d) (k : Kept S w w') (hg : g < w.heap.size) (hS : ¬ S g) : HoldsK encD 2 w' g 0 d := fun j hj => by
  obtain ⟨h1, h2⟩ := h j hj
  exact ⟨(World.cell?_of_block (a := ⟨g, 0 + j, none⟩) (k.block g hg hS)).trans h1, (World.frozen?_of_block (a := ⟨g, 0 + j, none⟩) (k.block g hg hS)).trans h2⟩
/-- The sort of the rows, and what stands then, whatever happens to an elder block. -/
theorem dq_sort {W wr : World} {bx : Nat} {vc vu ve : Value} {s : List DepV} {P : List Blk} (h : DqSt W bx vc wr vu ve (dqU [] P) s) (hs : s.map depE = dqE [] P) (hm : (flatB P).Nodup ∧ (∀ v ∈ flatB P, 1 ≤ v ∧ v ≤ 65536) ∧ (flatB P).length ≤ 1024) (r : Nat) (hr : r < W.heap.size) :
    Calls Tryz.prog 32 #[ve, .func (.func 33) #[] #[]] wr fun e w' => e = .returned (.tuple #[]) ∧ SBox W bx #[vu, ve, vc] 29 w' ∧
      ∀ wf, Kept (fun k => k = r) w' wf → IsInts wf vu (dqU [] P) ∧ IsDeps wf ve (byVar (dqE [] P)) := by
  have hp := dq_perm P []
  rw [List.nil_append] at hp
  have hU64 : In64 (dqU [] P) := fun v hv => by
    have := hm.2.1 v (hp.mem_iff.1 (List.mem_append_left _ hv))
    omega
  have hlen := dqU_sub P []
  simp only [List.length_nil] at hlen
  have hel : ∀ x ∈ s, x.l.length ≤ 1024 ∧ In64 x.l := by
    intro x hx
    have h1 : depE x ∈ dqE [] P := by rw [← hs]; exact List.mem_map.2 ⟨x, hx, rfl⟩
    exact dqE_small P [] _ h1 (by simp only [List.length_nil]; omega) (fun v hv => by
      have : v ∈ flatB P := by simpa using hv
      have := hm.2.1 v this
      omega)
  have hsl : s.length ≤ 1024 := by
    have h1 := congrArg List.length hs
    rw [List.length_map] at h1
    rw [exOf_len] at hlen
    omega
  have hrB : ∀ g, vu.ownBlock = some g → ¬ (g = r) := fun g hg e => by have := (h.univ.lt g hg).1; omega
  rcases h.rows.row.2 with ⟨rfl, h2⟩ | ⟨g, cap, cur, rfl, hBg, hgh, hnc, hcm, hcs, htk⟩
  · have hs0 : s = [] := List.eq_nil_of_length_eq_zero h2
    refine (sortvar_none none 0 wr).mono ?_
    rintro e w' ⟨rfl, rfl⟩
    refine ⟨rfl, h.box, fun wf hk => ⟨Own.ints (show Own wf W.heap.size vu (dqU [] P) from hk.row h.univ hrB) (by omega) hU64, ?_⟩⟩
    rw [← hs, hs0, show byVar (List.map depE []) = [] by simp [byVar]]
    exact IsTwo.nil wf
  · have hgl : g < wr.heap.size := (Array.getElem?_eq_some_iff.1 hgh).1
    obtain ⟨hH, _, _, _⟩ := holds_own (s := s) (w := wr) (B := W.heap.size) (g := g) (n := s.length) (cap := cap) ⟨h.rows.row.1, .inr ⟨g, cap, cur, rfl, hBg, hgh, hnc, hcm, hcs, htk⟩⟩
    refine (sortvar_any g cap s wr hH hgl (by omega)).mono ?_
    rintro e w' ⟨rfl, t, htp, hts, hHt, hk1⟩
    have hvg : ∀ i, (Value.slice (some ⟨g, 0, none⟩) s.length cap).ownBlock = some i → i = g := fun i hi => by
      have : g = i := by simpa [Value.ownBlock] using hi
      exact this.symm
    have htl : t.length = s.length := htp.length_eq
    have hbx : ¬ (bx = g) := fun e => h.ne (by rw [e]; simp [Value.ownBlock])
    refine ⟨rfl, h.box.keptS hk1 (fun i hi e => by omega) hbx, fun wf hk => ⟨?_, ?_⟩⟩
    · have k1 : Own w' W.heap.size vu (dqU [] P) := hk1.row h.univ (fun i hi e => rowE_ne h.rows.row h.univ i hi (by rw [e]; simp [Value.ownBlock]))
      exact Own.ints (show Own wf W.heap.size vu (dqU [] P) from hk.row k1 hrB) (by omega) hU64
    · have hgw : g < w'.heap.size := Nat.lt_of_lt_of_le hgl hk1.size
      have hgr : ¬ (g = r) := by omega
      have hd := deps_of_holds (w := wf) (g := g) (cap := cap) (s := t) (holds_kept hHt hk hgw hgr) (Nat.lt_of_lt_of_le hgw hk.size) (by omega) hcm (by omega) (fun x hx => by
        have hxs := htp.mem_iff.1 hx
        have k1 := hk1.row (h.rows.elems x hxs) (fun i hi e => rowE_ne h.rows.row (h.rows.elems x hxs) i hi (by rw [e]; simp [Value.ownBlock]))
        have k2 : Own wf W.heap.size (.slice x.a x.l.length x.c) x.l := hk.row k1 (fun i hi e => by have := ((h.rows.elems x hxs).lt i hi).1; omega)
        exact k2.ints (by have := (hel x hxs).1; omega) (hel x hxs).2)
      rw [htl] at hd
      have e : t.map depE = byVar (dqE [] P) := by
        rw [← hs]
        refine byVar_uniq ?_ (htp.map depE) ?_
        · rw [hs]; exact (List.nodup_append.1 (hp.nodup_iff.2 hm.1)).2.1
        · rw [List.pairwise_map]; exact hts
      rw [e] at hd
      exact hd

set_option maxRecDepth 100000 in
set_option maxHeartbeats 6400000 in
theorem pdqbf_any (vp vc : Value) (P : List Blk) (C : List (List Int)) (w : World) (HP : IsBlocks w vp P) (HC : IsRows w vc C) (hp : P.length ≤ 4000000) :
    Calls Tryz.prog 8 #[.agg #[vp, vc]] w (DqPost w P C vc) := by
  have HPP := Lib.hid HP
  obtain ⟨W, hW⟩ : ∃ W, (w.alloc (.cells #[vp, vc] 25)).alloc (.cells #[.slice none 0 0, .slice none 0 0, .slice none 0 0] 29) = W := ⟨_, rfl⟩
  have hb0 : Below w.heap.size w W := by rw [← hW]; exact ((Below.refl w.heap.size w).alloc (Nat.le_refl _) _).alloc (by simp) _
  have hsz : W.heap.size = w.heap.size + 2 := by rw [← hW]; simp
  have hA : W.heap[w.heap.size]? = some (.cells #[vp, vc] 25 (0, 0)) := by rw [← hW, (Below.alloc (Below.refl _ _) (Nat.le_refl _) _).block _ (by simp)]; exact World.alloc_heap_new w _
  have hB : W.heap[w.heap.size + 1]? = some (.cells #[.slice none 0 0, .slice none 0 0, .slice none 0 0] 29 (0, 0)) := by
    have := World.alloc_heap_new (w.alloc (.cells #[vp, vc] 25)) (.cells #[.slice none 0 0, .slice none 0 0, .slice none 0 0] 29)
    rw [hW] at this
    simpa using this
  have hq := pmayq_any vp vc P C W (HP.below hb0 (Nat.le_refl _)) (HC.below hb0 (Nat.le_refl _)) hp
  obtain ⟨a1, c1, rfl, _⟩ := HP.shape
  obtain ⟨a3, c3, rfl, _⟩ := HC.shape
  have HB0 := Lib.hid hb0
  have D0 : W.cell? ⟨w.heap.size, 0, none⟩ = some (.slice a1 P.length c1) := by simp [World.cell?, hA]
  have D1 : W.cell? ⟨w.heap.size, 1, none⟩ = some (.slice a3 C.length c3) := by simp [World.cell?, hA]
  have HX : Hid (∀ X, Below W.heap.size W X → X.cell? ⟨w.heap.size, 0, none⟩ = some (.slice a1 P.length c1) ∧ X.cell? ⟨w.heap.size, 1, none⟩ = some (.slice a3 C.length c3) ∧ X.cell? ⟨w.heap.size + 1, 0, none⟩ = some (.slice none 0 0) ∧ X.cell? ⟨w.heap.size + 1, 1, none⟩ = some (.slice none 0 0) ∧ X.cell? ⟨w.heap.size + 1, 2, none⟩ = some (.slice none 0 0) ∧
      X.frozen? ⟨w.heap.size + 1, 0, none⟩ = false ∧ X.frozen? ⟨w.heap.size + 1, 1, none⟩ = false ∧ X.frozen? ⟨w.heap.size + 1, 2, none⟩ = false) := by
    intro X hb
    exact ⟨(hb.cell (p := ⟨w.heap.size, 0, none⟩) (by simp; omega)).trans D0, (hb.cell (p := ⟨w.heap.size, 1, none⟩) (by simp; omega)).trans D1, dqbf_zero (w.heap.size + 1) X ((hb.block _ (by omega)).trans hB)⟩
  have HSZ := Lib.hid hsz
  have HQ := Lib.hid hq
  obtain ⟨d0, d1, d2, d3, d4, d5, d6, d7⟩ := HX.out W (Below.refl _ _)
  clear hq HP HC hb0 hA hB hsz D0 D1
  cases ho : mayQB P C with
  | false =>
    rw [ho] at HQ
    have HO := Lib.hid ho
    clear ho
    go_enter Tryz.func8, Tryz.ntmps8
    go_wp2_with (go_at_call 29; refine HQ.out.mono ?_; rintro e w1 ⟨rfl, hb1⟩; obtain ⟨e0, e1, e2, e3, e4, e5, e6, e7⟩ := HX.out w1 hb1)
    obtain ⟨g0, g1, g2⟩ := dqbf_set (w.heap.size + 1) w1 _ _ _ (.slice none 0 0) (.slice none 0 0) (.slice none 0 0) e2 e3 e4
    refine ⟨rfl, .tuple #[.agg #[.slice none 0 0, .slice none 0 0, .slice none 0 0], .int .i64 2], by simp [results, Tryz.f8, go_sem, g0, g1, g2], .inr ⟨HO.out, rfl⟩, ?_⟩
    have h2 := HSZ.out
    exact (((HB0.out.trans (hb1.mono (by omega))).setCell (by simp) _).setCell (by simp) _).setCell (by simp) _
  | true =>
    rw [ho] at HQ
    have HO := Lib.hid ho
    have hmp : mayP P = true := by
      unfold mayQB at ho
      rw [Bool.and_eq_true] at ho
      exact ho.1
    have HMP := Lib.hid (alt_may hmp)
    clear ho hmp
    go_enter Tryz.func8, Tryz.ntmps8
    go_wp2_with (go_at_call 29; refine HQ.out.mono ?_; rintro e w1 ⟨rfl, hb1⟩; obtain ⟨e0, e1, e2, e3, e4, e5, e6, e7⟩ := HX.out w1 hb1; have HS0 := Lib.hid (DqSt.start (vc := .slice a3 C.length c3) hb1); obtain ⟨f0, f1, f2, f3, f4, f5, f6, f7⟩ := HX.out _ (hb1.alloc hb1.size (.cells #[.slice none 0 0, .slice none 0 0, .slice a3 C.length c3] 29)))
    clear d0 d1 d2 d3 d4 d5 d6 d7 e0 e1 e2 e3 e4 e5 e6 e7 f0 f1 f2 f3 f4 f5 f6 f7 hb1 HQ
    generalize w1.alloc (.cells #[.slice none 0 0, .slice none 0 0, .slice a3 C.length c3] 29) = wa at *
    generalize w1.heap.size = bx at *
    go_loopw [19] (fun i wr => ∃ (k : Nat) (vu ve : Value) (s : List DepV), k ≤ P.length ∧ i = .int .i64 k ∧ DqSt W bx (.slice a3 C.length c3) wr vu ve (dqU [] (P.take k)) s ∧ s.map depE = dqE [] (P.take k)) (fun i _ => P.length - (intOf i).toNat)
    case atStart => exact ⟨0, _, _, [], Nat.zero_le _, rfl, HS0.out, rfl⟩
    case round =>
      obtain ⟨k, vu, ve, s, hk, rfl, hst, hse⟩ := hrel
      by_cases hlt : k < P.length
      · have hbW := hst.box.1
        have hsW := hbW.size
        have hbw := HB0.out.trans (hbW.mono HB0.out.size)
        obtain ⟨b, off, u, rfl, hb, hcx0, hcu0, HU00⟩ := HPP.out.at hlt
        have hcx := (hbw.cell (p := ⟨b, off + k * 2, none⟩) hb).trans hcx0
        have hcu := (hbw.cell (p := ⟨b, off + k * 2 + 1, none⟩) hb).trans hcu0
        have HU0 := HU00.below hbw (Nat.le_refl _)
        obtain ⟨ua, uc, rfl⟩ := HU0.shape
        have HUW := Lib.hid HU00
        clear hcx0 hcu0 HU00 hbw
        have hbl : P.getD k dB ∈ P := by simp [List.getD, hlt]
        have HT := Lib.hid (take_two (d := dB) hlt)
        have HNE : Hid ((P.getD k dB).2 ≠ []) := (dq_full HMP.out.1 _ hbl)
        have HLE := Lib.hid (dq_small HMP.out.2 hlt)
        have HKL := Lib.hid hlt
        have hk0 : (0 : Int) ≤ (k : Int) := by omega
        have hk1 : (k : Int) < (P.length : Int) := by omega
        clear hbl
        generalize P.getD k dB = y at *
        obtain ⟨y1, y2⟩ := y
        simp only at hcx hcu HU0 HNE HLE HUW
        have HST := Lib.hid hst
        have HSE := Lib.hid hse
        have HUI := Lib.hid HU0
        clear hst hse HU0
        cases y1 with
        | false =>
          have HDU : Hid (dqU [] (P.take (k + 1)) = ascI (dqU [] (P.take k) ++ y2)) := by show _ = _; rw [HT.out, dqU_snoc]; rfl
          have HDE : Hid (dqE [] (P.take (k + 1)) = dqE [] (P.take k)) := by show _ = _; rw [HT.out, dqE_snoc]; simp
          have HS1 : Hid (DqSt W bx (.slice a3 C.length c3) (wr.alloc (.cells #[.bool false, .slice ua y2.length uc] 53)) vu ve (dqU [] (P.take k)) s) := HST.out.below ((Below.refl _ _).alloc (Nat.le_refl _) _)
          have hx0 := HS1.out.box.cell (i := 0) rfl
          have HU1 : Hid (IsInts (wr.alloc (.cells #[.bool false, .slice ua y2.length uc] 53)) (.slice ua y2.length uc) y2) := HUI.out.below ((Below.refl wr.heap.size _).alloc (Nat.le_refl _) _) (Nat.le_refl _)
          go_wp2_with (first
            | (at_builtin; go_loud (refine wpList_appO rfl (.tmp 27) (.tmp 29) rfl W.heap.size vu (.slice ua y2.length uc) (dqU [] (P.take k)) y2 rfl rfl HS1.out.univ HU1.out HNE.out (by have := HLE.out; omega) HS1.out.box.1.size ?_; intro v' wx hownx hgx hvx; obtain ⟨va, vn, vk, rfl⟩ := own_shape3 hownx; obtain ⟨q0, q1⟩ := HS1.out.free (v' := .slice va vn vk) hgx; have HS2 := Lib.hid (HS1.out.setU hownx (Kept.of_grown hgx) hvx); have q2 := HS2.out.box.cell (i := 0) rfl; clear hownx hgx hvx))
            | (go_at_call 30; go_loud (refine (sort2_any W.heap.size (.slice va vn vk) _ _ HS2.out.univ HS2.out.box.1.size (by have := HLE.out; rw [List.length_append]; omega)).mono ?_; rintro e w3 ⟨rfl, hown3, hb3, hk3⟩; have HS3 := Lib.hid (HS2.out.sort hown3 hk3); clear hown3 hb3 hk3)))
          go_roundw
          case rel => exact ⟨k + 1, _, ve, s, by have := HKL.out; omega, by go_num, by rw [HDU.out]; exact HS3.out, by rw [HDE.out]; exact HSE.out⟩
          case measure => have := HKL.out; simp [intOf]; omega
        | true =>
          obtain ⟨UK, hUK⟩ : ∃ U, dqU [] (P.take k) = U := ⟨_, rfl⟩
          obtain ⟨EK, hEK⟩ : ∃ U, dqE [] (P.take k) = U := ⟨_, rfl⟩
          have HDU : Hid (dqU [] (P.take (k + 1)) = UK) := by show _ = _; rw [HT.out, dqU_snoc, hUK]; rfl
          have HDE : Hid (dqE [] (P.take (k + 1)) = EK ++ y2.map (fun v => (v, UK))) := by show _ = _; rw [HT.out, dqE_snoc, hUK, hEK]; rfl
          have HS1 : Hid (DqSt W bx (.slice a3 C.length c3) (wr.alloc (.cells #[.bool true, .slice ua y2.length uc] 53)) vu ve (dqU [] (P.take k)) s) := HST.out.below ((Below.refl _ _).alloc (Nat.le_refl _) _)
          have hlk : UK.length ≤ 1024 ∧ EK.length + y2.length ≤ 1024 := by
            have h1 := HLE.out
            rw [hUK, hEK, exOf_len] at h1
            omega
          have HLK := Lib.hid hlk
          have HUM : Hid (In64 UK) := by
            rw [← hUK]
            intro v hv
            have h1 := (dq_perm (P.take k) []).mem_iff.1 (List.mem_append_left _ hv)
            rw [List.nil_append] at h1
            have h2 := HMP.out.2.2.1 v (by
              have h3 : flatB (P.take k) <+: flatB P := by
                have := flat_prefix (d := dB) HKL.out 0
                simpa using this
              exact h3.subset h1)
            omega
          rw [hUK] at HS1
          rw [hEK] at HSE
          clear hlk hUK hEK HST HUI HLE
          go_wp2
          generalize wr.alloc (.cells #[.bool true, .slice ua y2.length uc] 53) = wz0 at *
          generalize wr.heap.size = bb at *
          generalize wr = wo at *
          go_loopw [38] (fun i wr => ∃ (t : Nat) (ve' : Value) (s' : List DepV), t ≤ y2.length ∧ i = .int .i64 t ∧ DqSt W bx (.slice a3 C.length c3) wr vu ve' UK s' ∧ s'.map depE = EK ++ (y2.take t).map (fun v => (v, UK))) (fun i _ => y2.length - (intOf i).toNat)
          case atStart => exact ⟨0, ve, s, Nat.zero_le _, rfl, HS1.out, by simpa using HSE.out⟩
          case round =>
            clear HS1 HSE
            obtain ⟨t, ve', s', ht, rfl, hst, hse⟩ := hrel
            by_cases htl : t < y2.length
            · have hbw := HB0.out.trans (hst.box.1.mono HB0.out.size)
              obtain ⟨b2, off2, rfl, hb2, hcm0⟩ := HUW.out.cellX htl
              have hcm := (hbw.cell (p := ⟨b2, off2 + t, none⟩) hb2).trans hcm0
              have HTY : Hid (y2.take (t + 1) = y2.take t ++ [y2.getD t 0]) := by show _ = _; rw [List.take_succ_eq_append_getElem htl]; simp [List.getD, htl]
              have HTL := Lib.hid htl
              generalize y2.getD t 0 = xv at *
              have ht0 : (0 : Int) ≤ (t : Int) := by omega
              have ht2 : (t : Int) < 1000000 := by have := HLK.out; omega
              have ht1 : (t : Int) < (y2.length : Int) := by omega
              have HST := Lib.hid hst
              have HSE := Lib.hid hse
              clear hcm0 hbw hst hse
              go_wp2_with fail
              have hS0 : Below W.heap.size W wr.drew ∧ wr.drew.cell? ⟨bx, 0, none⟩ = some vu := ⟨HST.out.box.1.drew, HST.out.box.cell rfl⟩
              have HSD : Hid (DqSt W bx (.slice a3 C.length c3) wr.drew vu ve' UK s') := HST.out.below (Below.refl _ _).drew
              have HCL : Hid (∀ X, Below wr.drew.heap.size wr.drew X → Calls Tryz.prog 31 #[vu] X (RetOwn X UK)) := fun X hX => clone1_any vu UK X (((HSD.out.univ.below hX (Nat.le_refl _)).ints (by have := HLK.out; omega) HUM.out))
              have HSL : Hid (s'.length + 1 ≤ 1000000) := by
                have h1 := congrArg List.length HSE.out
                have h2 := HLK.out
                have h3 := HTL.out
                rw [List.length_map, List.length_append, List.length_map, List.length_take] at h1
                show _ ≤ _
                omega
              refine wp_region_held_drew (S := fun X => Below W.heap.size W X ∧ X.cell? ⟨bx, 0, none⟩ = some vu) (by kernel_rfl) hS0 (fun hSd => ?_)
              clear hS0 HST
              generalize wr.drew = wd at *
              refine takeW (i := 0) (v := .pointer (some ⟨bx, 1, none⟩)) (some 42) rfl rfl (by kernel_rfl) (by kernel_rfl) (by kernel_rfl) (fun _ _ _ h => h) (Or.inl ⟨by rfl, ?_⟩) (by assumption) ?_
              · intro wz hSw; have y0 := hSw.2; go_simp
              try simp only [Act.put, List.setIfInBounds_toArray, List.set_cons_zero, List.set_cons_succ]
              refine takeW (i := 2) (v := .int .i64 xv) (some 44) rfl rfl (by kernel_rfl) (by kernel_rfl) (by kernel_rfl) (fun _ _ _ h => h) (Or.inl ⟨by rfl, ?_⟩) (by assumption) ?_
              · intro wz hSw; have y0 := hSw.2; go_simp
              try simp only [Act.put, List.setIfInBounds_toArray, List.set_cons_zero, List.set_cons_succ]
              refine takeW (i := 3) (v := .pointer (some ⟨bx, 0, none⟩)) (some 45) rfl rfl (by kernel_rfl) (by kernel_rfl) (by kernel_rfl) (fun _ _ _ h => h) (Or.inl ⟨by rfl, ?_⟩) (by assumption) ?_
              · intro wz hSw; have y0 := hSw.2; go_simp
              try simp only [Act.put, List.setIfInBounds_toArray, List.set_cons_zero, List.set_cons_succ]
              refine takeW (i := 4) (v := vu) (some 46) rfl rfl (by kernel_rfl) (by kernel_rfl) (by kernel_rfl) (fun _ _ _ h => h) (Or.inl ⟨by rfl, ?_⟩) (by assumption) ?_
              · intro wz hSw; have y0 := hSw.2; go_simp
              try simp only [Act.put, List.setIfInBounds_toArray, List.set_cons_zero, List.set_cons_succ]
              apply cut3 (P := Tryz.prog) (md := .any) (G := fun ca cc h wx => Below wd.heap.size wd wx ∧ Own wx wd.heap.size (.slice ca UK.length cc) UK ∧ ∀ j u, (cellsD [(⟨xv, ca, cc, UK⟩ : DepV)])[j]? = some u → wx.cell? (Addr.add ⟨h, 0, none⟩ j) = some u)
              · intro tail
                refine wpAnyH_ready (rs := [1, 5]) (by kernel_rfl) (by simp) ?_
                refine AllReadyH.cons rfl (fun K hK => ?_) ?_
                · have y1 := HSD.out.box.cell (i := 1) rfl
                  go_simp
                  refine hK.out _ _ hSd (fun hH4 => ?_)
                  clear hK K
                  refine wpAnyH_ready (rs := [5]) (by kernel_rfl) (by simp) ?_
                  refine AllReadyH.cons rfl (fun K hK => ?_) AllReadyH.nil
                  go_simp
                  go_wp2_with (go_at_call 31; refine (HCL.out wd (Below.refl _ _)).mono ?_; rintro e w5 ⟨u5, rfl, ho5, hb5⟩; obtain ⟨ca, cc, rfl⟩ := ho5.shapeA)
                  refine hK.out _ _ ⟨hSd.1.trans (hb5.mono hSd.1.size), (HSD.out.below hb5).box.cell rfl⟩ (fun hH5 => ?_)
                  clear hK K
                  refine takeW (i := 6) (v := .agg #[.int .i64 xv, .slice ca UK.length cc]) (some 48) rfl rfl (by kernel_rfl) (by kernel_rfl) (by kernel_rfl) (fun _ _ _ h => h) (Or.inl ⟨by rfl, ?_⟩) (by assumption) ?_
                  · intro wz hSw; have y0 := hSw.2; go_simp
                  try simp only [Act.put, List.setIfInBounds_toArray, List.set_cons_zero, List.set_cons_succ]
                  refine wpAnyH_ready (rs := [7]) (by kernel_rfl) (by simp) ?_
                  refine AllReadyH.cons rfl (fun K hK => ?_) AllReadyH.nil
                  go_simp
                  have hb6 : Below w5.heap.size w5 (w5.alloc (.cells #[.int .i64 xv, .slice ca UK.length cc] 51)) := (Below.refl _ _).alloc (Nat.le_refl _) _
                  have hb56 := hb5.trans (hb6.mono hb5.size)
                  refine hK.out _ _ ⟨hSd.1.trans (hb56.mono hSd.1.size), (HSD.out.below hb56).box.cell rfl⟩ (fun hH6 => ?_)
                  clear hK K
                  have hc6 : ∀ j u, (cellsD [(⟨xv, ca, cc, UK⟩ : DepV)])[j]? = some u → (w5.alloc (.cells #[.int .i64 xv, .slice ca UK.length cc] 51)).cell? (Addr.add ⟨w5.heap.size, 0, none⟩ j) = some u := fun j u hj => cell_add (by simpa [cellsD, encD] using hj)
                  have ho6 := ho5.alloc (.cells #[.int .i64 xv, .slice ca UK.length cc] 51)
                  generalize w5.alloc (.cells #[.int .i64 xv, .slice ca UK.length cc] 51) = w6 at *
                  generalize w5.heap.size = h5 at *
                  exact tail ca cc h5 w6 ⟨hb56, ho6, hc6⟩
                · refine AllReadyH.cons rfl (fun K hK => ?_) AllReadyH.nil
                  go_simp
                  go_wp2_with (go_at_call 31; refine (HCL.out wd (Below.refl _ _)).mono ?_; rintro e w5 ⟨u5, rfl, ho5, hb5⟩; obtain ⟨ca, cc, rfl⟩ := ho5.shapeA)
                  refine hK.out _ _ ⟨hSd.1.trans (hb5.mono hSd.1.size), (HSD.out.below hb5).box.cell rfl⟩ (fun hH5 => ?_)
                  clear hK K
                  refine takeW (i := 6) (v := .agg #[.int .i64 xv, .slice ca UK.length cc]) (some 48) rfl rfl (by kernel_rfl) (by kernel_rfl) (by kernel_rfl) (fun _ _ _ h => h) (Or.inl ⟨by rfl, ?_⟩) (by assumption) ?_
                  · intro wz hSw; have y0 := hSw.2; go_simp
                  try simp only [Act.put, List.setIfInBounds_toArray, List.set_cons_zero, List.set_cons_succ]
                  refine wpAnyH_ready (rs := [1, 7]) (by kernel_rfl) (by simp) ?_
                  refine AllReadyH.cons rfl (fun K hK => ?_) ?_
                  · have y1 := (HSD.out.below hb5).box.cell (i := 1) rfl
                    go_simp
                    refine hK.out _ _ hH5 (fun hH6 => ?_)
                    clear hK K
                    refine wpAnyH_ready (rs := [7]) (by kernel_rfl) (by simp) ?_
                    refine AllReadyH.cons rfl (fun K hK => ?_) AllReadyH.nil
                    go_simp
                    have hb6 : Below w5.heap.size w5 (w5.alloc (.cells #[.int .i64 xv, .slice ca UK.length cc] 51)) := (Below.refl _ _).alloc (Nat.le_refl _) _
                    have hb56 := hb5.trans (hb6.mono hb5.size)
                    refine hK.out _ _ ⟨hSd.1.trans (hb56.mono hSd.1.size), (HSD.out.below hb56).box.cell rfl⟩ (fun hH6 => ?_)
                    clear hK K
                    have hc6 : ∀ j u, (cellsD [(⟨xv, ca, cc, UK⟩ : DepV)])[j]? = some u → (w5.alloc (.cells #[.int .i64 xv, .slice ca UK.length cc] 51)).cell? (Addr.add ⟨w5.heap.size, 0, none⟩ j) = some u := fun j u hj => cell_add (by simpa [cellsD, encD] using hj)
                    have ho6 := ho5.alloc (.cells #[.int .i64 xv, .slice ca UK.length cc] 51)
                    generalize w5.alloc (.cells #[.int .i64 xv, .slice ca UK.length cc] 51) = w6 at *
                    exact tail ca cc w5.heap.size w6 ⟨hb56, ho6, hc6⟩
                  · refine AllReadyH.cons rfl (fun K hK => ?_) AllReadyH.nil
                    go_simp
                    have hb6 : Below w5.heap.size w5 (w5.alloc (.cells #[.int .i64 xv, .slice ca UK.length cc] 51)) := (Below.refl _ _).alloc (Nat.le_refl _) _
                    have hb56 := hb5.trans (hb6.mono hb5.size)
                    refine hK.out _ _ ⟨hSd.1.trans (hb56.mono hSd.1.size), (HSD.out.below hb56).box.cell rfl⟩ (fun hH6 => ?_)
                    clear hK K
                    have hc6 : ∀ j u, (cellsD [(⟨xv, ca, cc, UK⟩ : DepV)])[j]? = some u → (w5.alloc (.cells #[.int .i64 xv, .slice ca UK.length cc] 51)).cell? (Addr.add ⟨w5.heap.size, 0, none⟩ j) = some u := fun j u hj => cell_add (by simpa [cellsD, encD] using hj)
                    have ho6 := ho5.alloc (.cells #[.int .i64 xv, .slice ca UK.length cc] 51)
                    generalize w5.alloc (.cells #[.int .i64 xv, .slice ca UK.length cc] 51) = w6 at *
                    have y1 := (HSD.out.below hb56).box.cell (i := 1) rfl
                    refine wpAnyH_ready (rs := [1]) (by kernel_rfl) (by simp) ?_
                    refine AllReadyH.cons rfl (fun K hK => ?_) AllReadyH.nil
                    go_simp
                    refine hK.out _ _ hH6 (fun hH7 => ?_)
                    clear hK K
                    exact tail ca cc w5.heap.size w6 ⟨hb56, ho6, hc6⟩
              · rintro ca cc h6 w6 ⟨hb6, ho6, hc6⟩
                have HO6 := Lib.hid ho6
                have HB6 := Lib.hid hb6
                have HS6 := Lib.hid (HSD.out.below hb6)
                have hH6 : Below W.heap.size W w6 ∧ w6.cell? ⟨bx, 0, none⟩ = some vu := ⟨HS6.out.box.1, HS6.out.box.cell rfl⟩
                refine wpAnyH_ready (rs := [8]) (by kernel_rfl) (by simp) ?_
                refine AllReadyH.cons rfl (fun K hK => ?_) AllReadyH.nil
                refine step_appD (some 50) rfl rfl (.tmp 43) (.tmp 49) rfl W.heap.size ve' s' ⟨xv, ca, cc, UK⟩ h6 1 rfl rfl HS6.out.rows.row hc6 HSL.out HS6.out.box.1.size ?_
                intro v8 w8 hrow8 hg8
                obtain ⟨v8a, v8n, v8c, rfl⟩ : ∃ a n c, v8 = .slice a n c := by
                  rcases hrow8.2 with ⟨rfl, _⟩ | ⟨g, cap, cur, rfl, _⟩
                  · exact ⟨_, _, _, rfl⟩
                  · exact ⟨_, _, _, rfl⟩
                have hb8 : SBox W bx #[vu, ve', .slice a3 C.length c3] 29 w8 := HS6.out.box.grown hg8 (fun g hg => (rowB_lt HS6.out.rows.row g hg).1) HS6.out.ne
                refine hK.out _ _ ⟨hb8.1, hb8.cell rfl⟩ (fun hH8 => ?_)
                clear hK K
                try simp only [Act.put, List.setIfInBounds_toArray, List.set_cons_zero, List.set_cons_succ]
                have HS9 := Lib.hid (HSD.out.appE (x := ⟨xv, ca, cc, UK⟩) HB6.out HO6.out hrow8 hg8)
                have y1 := hb8.cell (i := 1) rfl
                have y2f := hb8.free 1
                refine takeW (i := 9) (v := .pointer (some ⟨bx, 1, none⟩)) (some 51) rfl rfl (by kernel_rfl) (by kernel_rfl) (by kernel_rfl) (fun _ _ _ h => h) (Or.inl ⟨by rfl, ?_⟩) (by assumption) ?_
                · intro wz hSw; have y0 := hSw.2; go_simp
                try simp only [Act.put, List.setIfInBounds_toArray, List.set_cons_zero, List.set_cons_succ]
                refine wpAnyH_ready (rs := [10]) (by kernel_rfl) (by simp) ?_
                refine AllReadyH.cons rfl (fun K hK => ?_) AllReadyH.nil
                go_simp
                refine hK.out _ _ ⟨HS9.out.box.1, HS9.out.box.cell rfl⟩ (fun hH9 => ?_)
                clear hK K
                refine wpAnyH_done (by kernel_rfl) ?_ _
                clear hrow8 hg8 hb8 y1 y2f hH8 hH6 hc6 hb6 ho6
                generalize w8.setCell ⟨bx, 1, none⟩ (.slice v8a v8n v8c) = w9 at *
                go_wp2
                go_roundw
                case rel => exact ⟨t + 1, _, _, by have := HTL.out; omega, by go_num, HS9.out, by rw [List.map_append, HSE.out, HTY.out, List.map_append, List.append_assoc]; rfl⟩
                case measure => have := HTL.out; simp [intOf]; omega
            · obtain rfl : t = y2.length := by omega
              have HST := Lib.hid hst
              have HSE := Lib.hid hse
              clear hst hse
              go_wp2
              go_roundw
              case rel => exact ⟨k + 1, vu, ve', s', by have := HKL.out; omega, by go_num, by rw [HDU.out]; exact HST.out, by rw [HDE.out]; rw [HSE.out, List.take_length]⟩
              case measure => have := HKL.out; simp [intOf]; omega
      · obtain rfl : k = P.length := by omega
        rw [List.take_length] at hst hse
        have HFIN := Lib.hid (dq_sort hst hse HMP.out.2 (w.heap.size + 1) (by have := HSZ.out; omega))
        obtain ⟨ua, un, uc, rfl⟩ := own_shape3 hst.univ
        obtain ⟨ea, ec, rfl⟩ := hst.rows.shape
        have y1 := hst.box.cell (i := 1) rfl
        clear hst hse
        generalize s.length = sn at *
        go_wp2_with (go_at_call 32; go_loud (refine HFIN.out.mono ?_; rintro e w10 ⟨rfl, hbox, hfin⟩; have z0 := hbox.cell (i := 0) rfl; have z1 := hbox.cell (i := 1) rfl; have z2 := hbox.cell (i := 2) rfl; obtain ⟨e0, e1, e2, e3, e4, e5, e6, e7⟩ := HX.out w10 hbox.1))
        obtain ⟨g0, g1, g2⟩ := dqbf_set (w.heap.size + 1) w10 _ _ _ (.slice ua un uc) (.slice ea sn ec) (.slice a3 C.length c3) e2 e3 e4
        have hfin2 := hfin _ (kept_set3 (w.heap.size + 1) w10 (.slice ua un uc) (.slice ea sn ec) (.slice a3 C.length c3))
        have h2 := HSZ.out
        refine ⟨rfl, .tuple #[.agg #[.slice ua un uc, .slice ea sn ec, .slice a3 C.length c3], .int .i64 0], by simp [results, Tryz.f8, go_sem, g0, g1, g2], .inl ⟨HO.out, _, _, rfl, hfin2.1, hfin2.2⟩, ?_⟩
        exact (((HB0.out.trans (hbox.1.mono (by omega))).setCell (by simp) _).setCell (by simp) _).setCell (by simp) _
end Go.Proofs.YtmiijgjpkkmoaaaGreat
