/- Joined texts: CxPComp. -/
import Derived.Test.YtafenijbglcppaaK27
import Derived.Test.YtafenijbglcppaaK15
/- A composition has the value of the net with the other net's value (no program). -/
namespace Go.Proofs.Ytafenijbglcppaa
open Go.RowKit Go.Maps
set_option linter.unusedVariables false
set_option linter.unusedSimpArgs false

theorem image_none {f : Int → Option Int} {x : Int} (h : f (varC x) = none) : imageF f x = x := by unfold imageF; rw [h]
theorem image_some {f : Int → Option Int} {x y : Int} (h : f (varC x) = some y) (hx : 0 ≤ x) : imageF f x = y := by unfold imageF; rw [h]; simp only; rw [if_neg (by omega)]
theorem sizeG_cons (g : Gt) (r : List Gt) : sizeG (g :: r) = g.2.2.length + sizeG r := by unfold sizeG; simp
theorem sizeG_ren (F : Int → Option Int) (gs : List Gt) : sizeG (renG F gs) = sizeG gs := by unfold sizeG renG; rw [List.map_map]; congr 1; exact List.map_congr_left (fun g _ => by simp)
theorem namedL_append : ∀ (a b : List Gt) (S : List Int) (t : Nat) (R : List Int), namedL S t a = some R → namedL S t (a ++ b) = namedL R (t + sizeG a) b
  | [], b, S, t, R, h => by
    unfold namedL at h
    injection h with h
    subst h
    rfl
  | g :: r, b, S, t, R, h => by
    unfold namedL at h
    split at h
    · rename_i hg
      rw [List.cons_append, sizeG_cons, ← Nat.add_assoc]
      conv => lhs; unfold namedL
      rw [if_pos hg]
      exact namedL_append r b _ _ R h
    · cases h
/-- What holds between a net and its renaming, some gates in. -/
def RenI (S T : List Int) (F : Int → Option Int) (Ho Hs : Int → Bool) : Prop := ∀ i ∈ S, (imageF F i ≠ 0 ∧ -65536 ≤ imageF F i ∧ imageF F i ≤ 65536) ∧ varC (imageF F i) ∈ T ∧ litV Hs (imageF F i) = Ho i
theorem RenI.lit {S T : List Int} {F : Int → Option Int} {Ho Hs : Int → Bool} (H : RenI S T F Ho Hs) (hS : ∀ i ∈ S, 1 ≤ i ∧ i ≤ 65536) {x : Int} (hx : varC x ∈ S) :
    (imageF F x ≠ 0 ∧ -65536 ≤ imageF F x ∧ imageF F x ≤ 65536) ∧ varC (imageF F x) ∈ T ∧ litV Hs (imageF F x) = litV Ho x := by
  have hv := hS _ hx
  obtain ⟨h1, h2, h3⟩ := H _ hx
  rw [image_lit hv, litV_var hv]
  by_cases h0 : x < 0
  · rw [if_pos h0, if_pos h0]
    refine ⟨by omega, ?_, ?_⟩
    · rw [varC_neg (by omega)]; exact h2
    · rw [litV_neg (by unfold okM; omega), h3]
  · rw [if_neg h0, if_neg h0]
    exact ⟨h1, h2, h3⟩
theorem ren_run {F : Int → Option Int} : ∀ (gs : List Gt) (S T R : List Int) (t tt : Nat) (Ho Hs : Int → Bool) (acc acc' : List Bool), namedL S t gs = some R → (∀ i ∈ S, 1 ≤ i ∧ i ≤ 65536) → RenI S T F Ho Hs → tt + sizeG gs ≤ 200000 →
    (∀ g ∈ gs, 1 ≤ imageF F g.1 ∧ imageF F g.1 ≤ 65536 ∧ imageF F g.1 ∉ T) → (gs.map (fun g => imageF F g.1)).Nodup →
    namedL T tt (renG F gs) = some (T ++ gs.map (fun g => imageF F g.1)) ∧ RenI R (T ++ gs.map (fun g => imageF F g.1)) F (gs.foldl gStep (Ho, acc)).1 ((renG F gs).foldl gStep (Hs, acc')).1
  | [], S, T, R, t, tt, Ho, Hs, acc, acc', hn, hS, H, hsz, hv, hnd => by
    unfold namedL at hn
    injection hn with hn
    subst hn
    refine ⟨by simp [renG, namedL], ?_⟩
    rw [List.map_nil, List.append_nil]
    exact H
  | g :: r, S, T, R, t, tt, Ho, Hs, acc, acc', hn, hS, H, hsz, hv, hnd => by
    unfold namedL at hn
    split at hn
    · rename_i hg
      have hp := gOk_parts hg
      have he := hp.2.2.2
      unfold entB at he
      simp only [decide_eq_true_eq] at he
      have hgv := hv g (List.mem_cons_self ..)
      rw [List.map_cons, List.nodup_cons] at hnd
      rw [sizeG_cons] at hsz
      have hl : ∀ x ∈ g.2.2, _ := fun x hx => H.lit hS (hp.2.2.1 x hx)
      have hval : gateV Ho g.2.1 g.2.2 = gateV Hs g.2.1 (g.2.2.map (imageF F)) := gateV_map (fun x hx => (hl x hx).2.2.symm) hp.2.1
      have hS' : ∀ y ∈ S ++ [g.1], 1 ≤ y ∧ y ≤ 65536 := fun y hy => by
        rcases List.mem_append.1 hy with h1 | h1
        · exact hS y h1
        · rw [List.mem_singleton] at h1; rw [h1]; exact ⟨he.1, he.2.1⟩
      have hvg : varC g.1 = g.1 := varC_at he.1
      have H' : RenI (S ++ [g.1]) (T ++ [imageF F g.1]) F (updB Ho g.1 (gateV Ho g.2.1 g.2.2)) (updB Hs (imageF F g.1) (gateV Hs g.2.1 (g.2.2.map (imageF F)))) := fun i hi => by
        by_cases hig : i = g.1
        · rw [hig]
          refine ⟨by omega, ?_, ?_⟩
          · rw [varC_at hgv.1]; simp
          · rw [litV_pos hgv.1]
            unfold updB
            rw [if_pos rfl, if_pos rfl, hval]
        · have hiS : i ∈ S := by
            rcases List.mem_append.1 hi with h1 | h1
            · exact h1
            · rw [List.mem_singleton] at h1; exact absurd h1 hig
          obtain ⟨h1, h2, h3⟩ := H i hiS
          refine ⟨h1, List.mem_append_left _ h2, ?_⟩
          have hne : varC (imageF F i) ≠ imageF F g.1 := fun e => hgv.2.2 (e ▸ h2)
          have e1 : litV (updB Hs (imageF F g.1) (gateV Hs g.2.1 (g.2.2.map (imageF F)))) (imageF F i) = litV Hs (imageF F i) := by
            unfold litV updB
            rw [if_neg hne]
          rw [e1, h3]
          unfold updB
          rw [if_neg hig]
      have ih := ren_run r (S ++ [g.1]) (T ++ [imageF F g.1]) R _ (tt + g.2.2.length) _ _ (acc ++ [gateV Ho g.2.1 g.2.2]) (acc' ++ [gateV Hs g.2.1 (g.2.2.map (imageF F))]) hn hS' H' (by omega) (fun x hx => by
        have h1 := hv x (List.mem_cons_of_mem _ hx)
        refine ⟨h1.1, h1.2.1, fun h2 => ?_⟩
        rcases List.mem_append.1 h2 with h3 | h3
        · exact h1.2.2 h3
        · rw [List.mem_singleton] at h3
          exact hnd.1 (h3 ▸ List.mem_map_of_mem (f := fun g : Gt => imageF F g.1) hx)) hnd.2
      have hgo : gOk T tt (imageF F g.1, g.2.1, g.2.2.map (imageF F)) = true := by
        unfold gOk entB
        simp only [Bool.and_eq_true, decide_eq_true_eq, List.all_eq_true, List.length_map]
        refine ⟨by omega, hp.2.1, fun y hy => ?_, hgv⟩
        obtain ⟨x, hx, rfl⟩ := List.mem_map.1 hy
        exact (hl x hx).2.1
      have er : renG F (g :: r) = (imageF F g.1, g.2.1, g.2.2.map (imageF F)) :: renG F r := rfl
      rw [er, List.map_cons]
      refine ⟨?_, ?_⟩
      · conv => lhs; unfold namedL
        rw [if_pos hgo]
        simp only [List.length_map]
        rw [ih.1, List.append_assoc]
        rfl
      · have h9 := ih.2
        rw [List.append_assoc] at h9
        exact h9
    · cases hn
theorem namedL_nodup : ∀ (gs : List Gt) (S : List Int) (t : Nat) (R : List Int), namedL S t gs = some R → (gs.map (fun g => g.1)).Nodup
  | [], S, t, R, h => List.nodup_nil
  | g :: r, S, t, R, h => by
    have hf := fun h' => namedL_fresh r (S ++ [g.1]) (t + g.2.2.length) R h'
    unfold namedL at h
    split at h
    · rw [List.map_cons, List.nodup_cons]
      refine ⟨fun hm => ?_, namedL_nodup r _ _ R h⟩
      obtain ⟨x, hx, e⟩ := List.mem_map.1 hm
      exact hf h x hx (List.mem_append_right _ (by rw [e]; exact List.mem_singleton.2 rfl))
    · cases h
/-- New names, looked up. -/
theorem own_fold : ∀ (l : List (Gt × Int)) (f : Int → Option Int), (l.map (fun x => x.1.1)).Nodup →
    (∀ x ∈ l, (l.foldl (fun f x => updM f x.1.1 x.2) f) x.1.1 = some x.2) ∧ ∀ k, k ∉ l.map (fun x => x.1.1) → (l.foldl (fun f x => updM f x.1.1 x.2) f) k = f k
  | [], f, _ => ⟨fun x hx => (by cases hx), fun k _ => rfl⟩
  | y :: r, f, h => by
    rw [List.map_cons, List.nodup_cons] at h
    have ih := own_fold r (updM f y.1.1 y.2) h.2
    rw [List.foldl_cons]
    refine ⟨fun x hx => ?_, fun k hk => ?_⟩
    · rcases List.mem_cons.1 hx with h1 | h1
      · rw [h1, ih.2 _ h.1]
        unfold updM
        rw [if_pos rfl]
      · exact ih.1 x h1
    · rw [List.map_cons] at hk
      have h1 : k ≠ y.1.1 := fun e => hk (by rw [e]; exact List.mem_cons_self ..)
      have h2 : k ∉ r.map (fun x => x.1.1) := fun e => hk (List.mem_cons_of_mem _ e)
      rw [ih.2 k h2]
      unfold updM
      rw [if_neg h1]
theorem free_nodup (S : List Int) (k : Nat) : (unusedL S k).Nodup ∧ ∀ v ∈ unusedL S k, (1 ≤ v ∧ v ≤ 65536) ∧ v ∉ S := by
  have h1 : (freeUp S 65536).Nodup := by
    have h0 : ((List.range 65536).map (fun i : Nat => (i : Int) + 1)).Nodup := by
      refine List.pairwise_map.2 (List.nodup_range.imp ?_)
      intro a b h e
      exact h (by omega)
    unfold freeUp
    exact h0.filter _
  unfold unusedL
  refine ⟨h1.sublist (List.take_sublist _ _), fun v hv => ?_⟩
  have hm := List.mem_of_mem_take hv
  exact ⟨freeUp_bd (Nat.le_refl _) v hm, freeUp_mem hm⟩
theorem zip_fst : ∀ (gs : List Gt) (ns : List Int), ns.length = gs.length → (gs.zip ns).map (fun x => x.1.1) = gs.map (fun g => g.1) ∧ (gs.zip ns).map (fun x => x.2) = ns
  | [], [], _ => ⟨rfl, rfl⟩
  | [], y :: s, h => by simp at h
  | g :: r, [], h => by simp at h
  | g :: r, y :: s, h => by
    have ih := zip_fst r s (by simpa using h)
    simp only [List.zip_cons_cons, List.map_cons, ih.1, ih.2, and_self]
/-- The composition. -/
theorem compose_means {P P2 : List Blk} {gs gs2 : List Gt} {o v o2 : Int} (h : (composeN P gs o v P2 gs2 o2).2 = 0) (a b : List Int) (hb : ∀ i, setA (fun _ => false) b i = if i = v then litV (runA gs2 a).1 o2 else setA (fun _ => false) a i) :
    v ∈ flatB P ∧ mayN P gs o = true ∧ mayN P2 gs2 o2 = true ∧ (∀ x ∈ flatB P2, x ∈ flatB P) ∧ mayN (composeN P gs o v P2 gs2 o2).1.1 (composeN P gs o v P2 gs2 o2).1.2.1 (composeN P gs o v P2 gs2 o2).1.2.2 = true ∧
    litV (runA (composeN P gs o v P2 gs2 o2).1.2.1 a).1 (composeN P gs o v P2 gs2 o2).1.2.2 = litV (runA gs b).1 o := by
  unfold composeN at h ⊢
  by_cases h1 : (mayN P gs o && mayN P2 gs2 o2) = true
  · rw [if_pos h1] at h ⊢
    by_cases h2 : v ∈ flatB P
    · rw [if_pos h2] at h ⊢
      by_cases h3 : (flatB P2).all (fun x => decide (varC x ∈ flatB P) && !decide (varC x = v)) = true
      · rw [if_pos h3] at h ⊢
        by_cases h4 : gs2.length ≤ (unusedL ((namedN P gs).getD []) gs2.length).length ∧ sizeG gs + sizeG gs2 ≤ 200000
        · rw [if_pos h4]
          simp only
          simp only [Bool.and_eq_true] at h1
          obtain ⟨R, hp, hnn, hn, ho, hP⟩ := mayN_named h1.1
          obtain ⟨R2, hp2, hnn2, hn2, ho2, hP2⟩ := mayN_named h1.2
          rw [hnn] at h4 ⊢
          simp only [Option.getD_some] at h4 ⊢
          have hfr := free_nodup R gs2.length
          have hns : (unusedL R gs2.length).length = gs2.length := by
            have : (unusedL R gs2.length).length ≤ gs2.length := by unfold unusedL; rw [List.length_take]; omega
            omega
          generalize unusedL R gs2.length = ns at *
          have h3' : ∀ x ∈ flatB P2, x ∈ flatB P ∧ x ≠ v := fun x hx => by
            have h5 := List.all_eq_true.1 h3 x hx
            have h6 := varC_at (hP2 x hx).1
            rw [h6] at h5
            simpa using h5
          have hfull := namedL_full gs _ _ R hn
          have hz := zip_fst gs2 ns hns
          have hnd2 := namedL_nodup gs2 _ _ R2 hn2
          have hof := own_fold (gs2.zip ns) (fun _ => none) (by rw [hz.1]; exact hnd2)
          have hown : ∀ k, ownM gs2 ns k = (gs2.zip ns).foldl (fun f x => updM f x.1.1 x.2) (fun _ => none) k := fun k => rfl
          have hfr2 := namedL_fresh gs2 _ _ R2 hn2
          have hnone : ∀ i ∈ flatB P2, ownM gs2 ns i = none := fun i hi => by
            rw [hown, hof.2 i (fun hm => ?_)]
            rw [hz.1] at hm
            obtain ⟨x, hx, e⟩ := List.mem_map.1 hm
            exact hfr2 x hx (e ▸ hi)
          have hsome : ∀ x ∈ gs2.zip ns, imageF (ownM gs2 ns) x.1.1 = x.2 := fun x hx => by
            have hg2 : x.1 ∈ gs2 := (List.of_mem_zip hx).1
            have hv := ((namedL_gates gs2 _ _ R2 hn2 hP2).2 x.1.1 (by rw [namedL_full gs2 _ _ R2 hn2]; exact List.mem_append_right _ (List.mem_map_of_mem (f := fun g : Gt => g.1) hg2)))
            exact image_some (by rw [varC_at hv.1, hown, hof.1 x hx]) (by omega)
          have himg : gs2.map (fun g => imageF (ownM gs2 ns) g.1) = ns := by
            have e1 : gs2.map (fun g => imageF (ownM gs2 ns) g.1) = (gs2.zip ns).map (fun x => imageF (ownM gs2 ns) x.1.1) := by
              rw [show (gs2.zip ns).map (fun x => imageF (ownM gs2 ns) x.1.1) = ((gs2.zip ns).map (fun x => x.1.1)).map (imageF (ownM gs2 ns)) by rw [List.map_map]; rfl, hz.1, List.map_map]
              rfl
            rw [e1, List.map_congr_left hsome]
            exact hz.2
          generalize hF1 : ownM gs2 ns = F1 at *
          clear hown hof
          have hfl : flatB (withoutP P (updM (fun _ => none) v (imageF F1 o2))) = (flatB P).filter (fun x => ((updM (fun _ => none) v (imageF F1 o2)) x).isNone) := without_flat P _
          have hput : ∀ i, i ≠ v → updM (fun _ => none) v (imageF F1 o2) i = none := fun i hi => by unfold updM; rw [if_neg hi]
          have hT : ∀ i, i ∈ flatB (withoutP P (updM (fun _ => none) v (imageF F1 o2))) ↔ i ∈ flatB P ∧ i ≠ v := fun i => by
            rw [hfl, List.mem_filter]
            constructor
            · rintro ⟨h5, h6⟩
              refine ⟨h5, fun e => ?_⟩
              rw [e] at h6
              unfold updM at h6
              rw [if_pos rfl] at h6
              cases h6
            · rintro ⟨h5, h6⟩
              exact ⟨h5, by rw [hput i h6]; rfl⟩
          have hmp := mayP_without hp (updM (fun _ => none) v (imageF F1 o2))
          have hgm2 : ∀ g ∈ gs2, imageF F1 g.1 ∈ ns := fun g hg => by
            rw [← himg]; exact List.mem_map_of_mem (f := fun g : Gt => imageF F1 g.1) hg
          have r1 := ren_run (F := F1) gs2 (flatB P2) (flatB (withoutP P (updM (fun _ => none) v (imageF F1 o2)))) R2 0 0 (setA (fun _ => false) a) (setA (fun _ => false) a) [] [] hn2 hP2 (fun i hi => by
              have hi1 := hP2 i hi
              have e : imageF F1 i = i := image_none (by rw [varC_at hi1.1]; exact hnone i hi)
              rw [e]
              exact ⟨by omega, by rw [varC_at hi1.1]; exact (hT i).2 (h3' i hi), litV_pos hi1.1⟩) (by omega) (fun g hg => by
              have h5 := hfr.2 _ (hgm2 g hg)
              refine ⟨h5.1.1, h5.1.2, fun h6 => h5.2 ?_⟩
              rw [hfull]
              exact List.mem_append_left _ ((hT _).1 h6).1) (by rw [himg]; exact hfr.1)
          rw [himg] at r1
          have hl2 := r1.2.lit (namedL_gates gs2 _ _ R2 hn2 hP2).2 ho2
          have hw : litV (gs2.foldl gStep (setA (fun _ => false) a, [])).1 o2 = litV (runA gs2 a).1 o2 := rfl
          rw [hw] at hl2
          have hkeep := (runG_last (renG F1 gs2) _ _ _ (setA (fun _ => false) a) [] r1.1).1
          have hsz1 : sizeG (renG F1 gs2) = sizeG gs2 := sizeG_ren F1 gs2
          have hfresh := namedL_fresh gs _ _ R hn
          have hgi : ∀ g ∈ gs, imageF (updM (fun _ => none) v (imageF F1 o2)) g.1 = g.1 ∧ 1 ≤ g.1 ∧ g.1 ≤ 65536 ∧ g.1 ∈ R := fun g hg => by
            have hm : g.1 ∈ R := by rw [hfull]; exact List.mem_append_right _ (List.mem_map_of_mem (f := fun g : Gt => g.1) hg)
            have hv := (namedL_gates gs _ _ R hn hP).2 g.1 hm
            refine ⟨?_, hv.1, hv.2, hm⟩
            exact image_none (by rw [varC_at hv.1]; exact hput g.1 (fun e => hfresh g hg (by rw [e]; exact h2)))
          have hmapg : gs.map (fun g => imageF (updM (fun _ => none) v (imageF F1 o2)) g.1) = gs.map (fun g => g.1) := List.map_congr_left (fun g hg => (hgi g hg).1)
          have r2 := ren_run (F := updM (fun _ => none) v (imageF F1 o2)) gs (flatB P) (flatB (withoutP P (updM (fun _ => none) v (imageF F1 o2))) ++ ns) R 0 (sizeG gs2) (setA (fun _ => false) b) ((renG F1 gs2).foldl gStep (setA (fun _ => false) a, [])).1 [] ((renG F1 gs2).foldl gStep (setA (fun _ => false) a, [])).2 hn hP (fun i hi => by
              have hi1 := hP i hi
              by_cases hiv : i = v
              · have e : imageF (updM (fun _ => none) v (imageF F1 o2)) i = imageF F1 o2 := by
                  unfold imageF
                  rw [varC_at hi1.1]
                  unfold updM
                  rw [if_pos hiv]
                  simp only
                  rw [if_neg (by omega)]
                rw [e, hb i, if_pos hiv]
                exact hl2
              · have e : imageF (updM (fun _ => none) v (imageF F1 o2)) i = i := image_none (by rw [varC_at hi1.1]; exact hput i hiv)
                rw [e]
                have hiT := (hT i).2 ⟨hi, hiv⟩
                refine ⟨by omega, by rw [varC_at hi1.1]; exact List.mem_append_left _ hiT, ?_⟩
                rw [litV_pos hi1.1, hkeep i hiT, hb i, if_neg hiv]) (by omega) (fun g hg => by
              obtain ⟨e, hv1, hv2, hm⟩ := hgi g hg
              rw [e]
              refine ⟨hv1, hv2, fun h6 => ?_⟩
              rcases List.mem_append.1 h6 with h7 | h7
              · exact hfresh g hg ((hT _).1 h7).1
              · exact (hfr.2 _ h7).2 hm) (by rw [hmapg]; exact namedL_nodup gs _ _ R hn)
          rw [hmapg] at r2
          have hlo := r2.2.lit (namedL_gates gs _ _ R hn hP).2 ho
          have hnam : namedN (withoutP P (updM (fun _ => none) v (imageF F1 o2))) (renG F1 gs2 ++ renG (updM (fun _ => none) v (imageF F1 o2)) gs) = some (flatB (withoutP P (updM (fun _ => none) v (imageF F1 o2))) ++ ns ++ gs.map (fun g => g.1)) := by
            unfold namedN
            rw [if_pos hmp, namedL_append _ _ _ _ _ r1.1, hsz1, Nat.zero_add]
            exact r2.1
          refine ⟨h2, h1.1, h1.2, fun x hx => (h3' x hx).1, mayN_of hnam hlo.2.1, ?_⟩
          have hrun : (runA (renG F1 gs2 ++ renG (updM (fun _ => none) v (imageF F1 o2)) gs) a).1 = ((renG (updM (fun _ => none) v (imageF F1 o2)) gs).foldl gStep (((renG F1 gs2).foldl gStep (setA (fun _ => false) a, [])).1, ((renG F1 gs2).foldl gStep (setA (fun _ => false) a, [])).2)).1 := by
            unfold runA runG
            rw [List.foldl_append]
          rw [hrun]
          exact hlo.2.2
        · rw [if_neg h4] at h; cases h
      · rw [if_neg h3] at h; cases h
    · rw [if_neg h2] at h; cases h
  · rw [if_neg h1] at h; cases h
end Go.Proofs.Ytafenijbglcppaa
