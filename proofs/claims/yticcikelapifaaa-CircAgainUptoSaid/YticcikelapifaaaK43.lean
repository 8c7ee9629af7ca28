/- Joined texts: CxPPerm. -/
import Derived.Test.YticcikelapifaaaK35
import Derived.Test.YticcikelapifaaaK53
import Derived.Test.YticcikelapifaaaK27
/- Gates in order, and in any other order. (Pure.) -/
namespace Go.Proofs.Yticcikelapifaaa
open Go.RowKit
set_option linter.unusedVariables false
set_option linter.unusedSimpArgs false

theorem namedL_ok : ∀ (gs : List Gt) (S R : List Int) (t : Nat), namedL S t gs = some R → varsOk S → varsOk R
  | [], S, R, t, h, hS => by
    unfold namedL at h
    injection h with h
    subst h
    exact hS
  | g :: r, S, R, t, h, hS => by
    unfold namedL at h
    split at h
    · rename_i hg
      exact namedL_ok r _ R _ h (varsOk_snoc.2 ⟨hS, (gOk_parts hg).2.2.2⟩)
    · cases h
theorem namedL_in : ∀ (gs : List Gt) (S R : List Int) (t : Nat), namedL S t gs = some R → ∀ g ∈ gs, gIn R g = true
  | [], S, R, t, h, g, hg => by cases hg
  | x :: r, S, R, t, h, g, hg => by
    have hR := namedL_full _ _ _ _ h
    unfold namedL at h
    split at h
    · rename_i hx
      rcases List.mem_cons.1 hg with rfl | hg
      · obtain ⟨_, h2, h3, _⟩ := gOk_parts hx
        unfold gIn
        rw [Bool.and_eq_true, List.all_eq_true]
        exact ⟨h2, fun y hy => decide_eq_true (by rw [hR]; exact List.mem_append.2 (.inl (h3 y hy)))⟩
      · exact namedL_in r _ R _ h g hg
    · cases h
theorem named_loose {S R : List Int} {gs : List Gt} (hS : varsOk S) (h : namedL S 0 gs = some R) : looseN S gs = true := by
  have hR : R = S ++ gv gs := namedL_full _ _ _ _ h
  have h1 := namedL_ok _ _ _ _ h hS
  have h2 := namedL_in _ _ _ _ h
  rw [hR] at h1 h2
  rw [loose_on h1]
  exact List.all_eq_true.2 h2
theorem named_size : ∀ (gs : List Gt) (S R : List Int) (t : Nat), namedL S t gs = some R → t ≤ 200000 → t + sizeG gs ≤ 200000
  | [], S, R, t, _, ht => by simpa [sizeG] using ht
  | g :: r, S, R, t, h, ht => by
    unfold namedL at h
    split at h
    · rename_i hg
      have h1 := named_size r _ _ _ h (gOk_parts hg).1
      have h2 : sizeG (g :: r) = g.2.2.length + sizeG r := by unfold sizeG; simp
      omega
    · cases h
theorem vT_range {gs : List Gt} : ∀ k, k ≤ gs.length → vT gs (List.range k) = (gs.take k).map (fun g => g.1)
  | 0, _ => by simp [vT]
  | k + 1, hk => by
    have h1 := vT_range (gs := gs) k (by omega)
    unfold vT at h1 ⊢
    rw [List.range_succ, List.map_append, gates_take (show k < gs.length by omega), List.map_append, h1]
    rfl
theorem rdy_at {S R : List Int} {gs : List Gt} (h : namedL S 0 gs = some R) {k : Nat} (hk : k < gs.length) : rdy S gs (List.range k) k = true := by
  have e : gs = gs.take k ++ gs.getD k dG :: gs.drop (k + 1) := by rw [← gates_drop hk, List.take_append_drop]
  have h' := h
  rw [e] at h'
  obtain ⟨M, h1, h2⟩ := namedL_split _ _ _ _ _ h'
  have hM := namedL_full _ _ _ _ h1
  unfold namedL at h2
  split at h2
  · rename_i hg
    obtain ⟨_, _, h3, _⟩ := gOk_parts hg
    unfold rdy
    rw [vT_range k (by omega), ← hM]
    exact List.all_eq_true.2 fun x hx => decide_eq_true (h3 x hx)
  · cases h2
theorem ord_from {S R : List Int} {gs : List Gt} (h : namedL S 0 gs = some R) : ∀ m k, k + m = gs.length → OrdR S gs (List.range k) (List.range' k m)
  | 0, k, e => .done (fun i hi hn => absurd (List.mem_range.2 (show i < k by omega)) hn)
  | m + 1, k, e => by
    have h1 := ord_from h m (k + 1) (by omega)
    rw [List.range_succ] at h1
    rw [List.range'_succ]
    exact .step ⟨by omega, by simp, rdy_at h (by omega), fun j hj hn => absurd (List.mem_range.2 hj) hn⟩ h1
theorem map_getD (gs : List Gt) : (List.range gs.length).map (fun i => gs.getD i dG) = gs := by
  have key : ∀ k, k ≤ gs.length → (List.range k).map (fun i => gs.getD i dG) = gs.take k := by
    intro k
    induction k with
    | zero => intro _; rfl
    | succ k ih =>
      intro hk
      rw [List.range_succ, List.map_append, ih (by omega), gates_take (show k < gs.length by omega)]
      rfl
  have := key gs.length (Nat.le_refl _)
  rwa [List.take_length] at this
/-- Gates in order are what Order returns. -/
theorem order_same {S R : List Int} {gs : List Gt} (hS : varsOk S) (h : namedL S 0 gs = some R) : looseN S gs = true ∧ sizeG gs ≤ 200000 ∧ OrdR S gs [] (List.range gs.length) ∧ (List.range gs.length).map (fun i => gs.getD i dG) = gs := by
  refine ⟨named_loose hS h, by have := named_size _ _ _ _ h (by omega); omega, ?_, map_getD gs⟩
  have := ord_from h gs.length 0 (by omega)
  rw [← List.range_eq_range'] at this
  exact this

theorem loose_perm {S : List Int} {gs l : List Gt} (h : looseN S gs = true) (p : l.Perm gs) : looseN S l = true := by
  obtain ⟨h1, h2⟩ := loose_parts h
  have pv : (S ++ gv l).Perm (S ++ gv gs) := List.Perm.append_left S (p.map _)
  have hm : ∀ y, y ∈ S ++ gv l ↔ y ∈ S ++ gv gs := fun y => pv.mem_iff
  have hok : varsOk (S ++ gv l) := ⟨pv.nodup_iff.2 h1.1, fun y hy => h1.2 y ((hm y).1 hy)⟩
  rw [loose_on hok]
  refine List.all_eq_true.2 fun g hg => ?_
  have h3 := h2 g (p.mem_iff.1 hg)
  unfold gIn at h3 ⊢
  simp only [Bool.and_eq_true, List.all_eq_true, decide_eq_true_eq] at h3 ⊢
  exact ⟨h3.1, fun x hx => (hm _).2 (h3.2 x hx)⟩
theorem sizeG_perm {l gs : List Gt} (p : l.Perm gs) : sizeG l = sizeG gs := by
  induction p with
  | nil => rfl
  | cons x _ ih => simp [sizeG] at ih ⊢; omega
  | swap x y l => simp [sizeG]; omega
  | trans _ _ a b => rw [a, b]
theorem ordR_full {ins : List Int} {gs : List Gt} {T r : List Nat} (h : OrdR ins gs T r) : noNext ins gs (T ++ r) := by
  induction h with
  | done h => simpa using h
  | step _ _ ih => simpa [List.append_assoc] using ih
theorem all_taken (ins : List Int) (l : List Gt) (T : List Nat) (hno : noNext ins l T) : ∀ (gs : List Gt) (S R : List Int) (t : Nat), namedL S t gs = some R → (∀ v ∈ S, v ∈ ins ++ vT l T) → (∀ g ∈ gs, g ∈ l) → ∀ g ∈ gs, g.1 ∈ ins ++ vT l T
  | [], S, R, t, _, _, _, g, hg => by cases hg
  | g :: r, S, R, t, hn, hS, hl, x, hx => by
    unfold namedL at hn
    split at hn
    · rename_i hg
      obtain ⟨_, _, hlit, _⟩ := gOk_parts hg
      have hg1 : g.1 ∈ ins ++ vT l T := by
        obtain ⟨j, hj, e⟩ := List.mem_iff_getElem.1 (hl g List.mem_cons_self)
        have e2 : l.getD j dG = g := by simp [List.getD, hj, e]
        by_cases hT : j ∈ T
        · exact List.mem_append.2 (.inr (List.mem_map.2 ⟨j, hT, by rw [e2]⟩))
        · have h1 := hno j hj hT
          have h2 : rdy ins l T j = true := by
            unfold rdy
            rw [e2]
            exact List.all_eq_true.2 fun y hy => decide_eq_true (hS _ (hlit y hy))
          rw [h1] at h2
          cases h2
      rcases List.mem_cons.1 hx with rfl | hx
      · exact hg1
      · refine all_taken ins l T hno r _ R _ hn (fun v hv => ?_) (fun g hg => hl g (List.mem_cons_of_mem _ hg)) x hx
        rcases List.mem_append.1 hv with h | h
        · exact hS v h
        · rw [List.mem_singleton] at h; subst h; exact hg1
    · cases hn
theorem perm_mem : ∀ (a b : List Nat), a.Nodup → b.Nodup → (∀ x, x ∈ a ↔ x ∈ b) → a.Perm b
  | [], b, _, _, h => by
    cases b with
    | nil => exact List.Perm.nil
    | cons y t => exact absurd ((h y).2 List.mem_cons_self) (by simp)
  | x :: a, b, ha, hb, h => by
    have hx : x ∈ b := (h x).1 List.mem_cons_self
    have h1 := List.perm_cons_erase hx
    refine List.Perm.trans (List.Perm.cons x (perm_mem a (b.erase x) (List.nodup_cons.1 ha).2 (hb.erase x) (fun y => ?_))) h1.symm
    rw [hb.mem_erase_iff]
    constructor
    · intro hy
      refine ⟨fun e => ?_, (h y).1 (List.mem_cons_of_mem _ hy)⟩
      subst e
      exact (List.nodup_cons.1 ha).1 hy
    · rintro ⟨h2, h3⟩
      rcases List.mem_cons.1 ((h y).2 h3) with e | e
      · exact absurd e h2
      · exact e
theorem gv_inj {l : List Gt} (h : (gv l).Nodup) {i j : Nat} (hi : i < l.length) (hj : j < l.length) (e : (l.getD i dG).1 = (l.getD j dG).1) : i = j := by
  unfold gv at h
  have h1 := List.pairwise_iff_getElem.1 h
  rcases Nat.lt_trichotomy i j with k | k | k
  · have := h1 i j (by simpa using hi) (by simpa using hj) k
    simp [List.getD, hi, hj] at e this
    exact absurd e this
  · exact k
  · have := h1 j i (by simpa using hj) (by simpa using hi) k
    simp [List.getD, hi, hj] at e this
    exact absurd e.symm this
theorem taken_perm {ins R : List Int} {gs l : List Gt} {T : List Nat} (h : namedL ins 0 gs = some R) (hv : varsOk ins) (p : l.Perm gs) (hno : noNext ins l T) (hT : T.Nodup) (hlt : ∀ i ∈ T, i < l.length) : T.Perm (List.range l.length) := by
  have hok := (loose_parts (loose_perm (named_loose hv h) p)).1
  have hd := List.nodup_append.1 hok.1
  refine perm_mem _ _ hT List.nodup_range (fun i => ⟨fun hi => List.mem_range.2 (hlt i hi), fun hi => ?_⟩)
  rw [List.mem_range] at hi
  have hm : l.getD i dG ∈ l := by simp [List.getD, hi]
  have h1 := all_taken ins l T hno gs ins R 0 h (fun v hv => List.mem_append.2 (.inl hv)) (fun g hg => p.mem_iff.2 hg) (l.getD i dG) (p.mem_iff.1 hm)
  rcases List.mem_append.1 h1 with h2 | h2
  · exact absurd rfl (hd.2.2 _ h2 _ (gv_mem hi))
  · obtain ⟨j, hj, e⟩ := List.mem_map.1 h2
    have := gv_inj hd.2.1 (hlt j hj) hi e
    exact this ▸ hj
theorem order_named {ins : List Int} {l : List Gt} (hl : looseN ins l = true) {T r : List Nat} (h : OrdR ins l T r) : (T ++ r).Nodup → (∀ i ∈ T ++ r, i < l.length) → ∀ t, t + sizeG (r.map (fun i => l.getD i dG)) ≤ 200000 → namedL (ins ++ vT l T) t (r.map (fun i => l.getD i dG)) = some (ins ++ vT l (T ++ r)) := by
  obtain ⟨hok, hin⟩ := loose_parts hl
  have hd := List.nodup_append.1 hok.1
  induction h with
  | done _ => intro _ _ t _; rw [List.map_nil, List.append_nil]; rfl
  | @step T i r h1 h2 ih =>
    intro hnd hlt t ht
    have hi : i < l.length := h1.1
    have hm : l.getD i dG ∈ l := by simp [List.getD, hi]
    have hsz : sizeG ((i :: r).map (fun i => l.getD i dG)) = (l.getD i dG).2.2.length + sizeG (r.map (fun i => l.getD i dG)) := by unfold sizeG; simp
    rw [hsz] at ht
    have e1 : T ++ i :: r = T ++ [i] ++ r := by simp
    rw [e1] at hnd hlt ⊢
    have h3 := ih hnd hlt (t + (l.getD i dG).2.2.length) (by omega)
    have e2 : ins ++ vT l (T ++ [i]) = (ins ++ vT l T) ++ [(l.getD i dG).1] := by unfold vT; simp
    rw [e2] at h3
    have hg : gOk (ins ++ vT l T) t (l.getD i dG) = true := by
      have hgi := hin _ hm
      unfold gIn at hgi
      rw [Bool.and_eq_true] at hgi
      unfold gOk
      simp only [Bool.and_eq_true, decide_eq_true_eq]
      refine ⟨by omega, hgi.1, h1.2.2.1, ?_⟩
      rw [ent_iff]
      have hr := hok.2 _ (List.mem_append.2 (.inr (gv_mem hi)))
      refine ⟨hr.1, hr.2, fun hmem => ?_⟩
      rcases List.mem_append.1 hmem with h4 | h4
      · exact hd.2.2 _ h4 _ (gv_mem hi) rfl
      · obtain ⟨j, hj, e⟩ := List.mem_map.1 h4
        have := gv_inj hd.2.1 (hlt j (by simp [hj])) hi e
        exact h1.2.1 (this ▸ hj)
    rw [List.map_cons]
    unfold namedL
    rw [if_pos hg]
    exact h3
/-- The values at the end fit each gate. -/
theorem named_fit : ∀ (gs : List Gt) (S R : List Int) (t : Nat) (h : Int → Bool) (acc : List Bool), namedL S t gs = some R →
    (∀ g ∈ gs, (gs.foldl gStep (h, acc)).1 g.1 = gateV (gs.foldl gStep (h, acc)).1 g.2.1 g.2.2) ∧ ∀ i ∈ S, (gs.foldl gStep (h, acc)).1 i = h i
  | [], S, R, t, h, acc, _ => ⟨fun g hg => (by cases hg), fun i _ => rfl⟩
  | g :: r, S, R, t, h, acc, hn => by
    unfold namedL at hn
    split at hn
    · rename_i hg
      obtain ⟨_, hf, hlit, he⟩ := gOk_parts hg
      rw [ent_iff] at he
      have h1 := named_fit r (S ++ [g.1]) R _ (updB h g.1 (gateV h g.2.1 g.2.2)) (acc ++ [gateV h g.2.1 g.2.2]) hn
      have e : (g :: r).foldl gStep (h, acc) = r.foldl gStep (updB h g.1 (gateV h g.2.1 g.2.2), acc ++ [gateV h g.2.1 g.2.2]) := rfl
      rw [e]
      have hS : ∀ i ∈ S, (r.foldl gStep (updB h g.1 (gateV h g.2.1 g.2.2), acc ++ [gateV h g.2.1 g.2.2])).1 i = h i := fun i hi => by
        rw [h1.2 i (List.mem_append.2 (.inl hi))]
        unfold updB
        rw [if_neg (fun e2 : i = g.1 => he.2.2 (by rw [← e2]; exact hi))]
      refine ⟨fun x hx => ?_, hS⟩
      rcases List.mem_cons.1 hx with rfl | hx
      · rw [h1.2 x.1 (by simp)]
        have e2 : updB h x.1 (gateV h x.2.1 x.2.2) x.1 = gateV h x.2.1 x.2.2 := by unfold updB; rw [if_pos rfl]
        rw [e2]
        exact gateV_congr (fun y hy => (hS _ (hlit y hy)).symm) hf
      · exact h1.1 x hx
    · cases hn
theorem fit_one : ∀ (gs : List Gt) (S R : List Int) (t : Nat) (F G : Int → Bool), namedL S t gs = some R → (∀ g ∈ gs, F g.1 = gateV F g.2.1 g.2.2) → (∀ g ∈ gs, G g.1 = gateV G g.2.1 g.2.2) → (∀ i ∈ S, F i = G i) → ∀ i ∈ R, F i = G i
  | [], S, R, t, F, G, hn, _, _, hS => by
    unfold namedL at hn
    injection hn with hn
    subst hn
    exact hS
  | g :: r, S, R, t, F, G, hn, hF, hG, hS => by
    unfold namedL at hn
    split at hn
    · rename_i hg
      obtain ⟨_, hf, hlit, _⟩ := gOk_parts hg
      refine fit_one r _ R _ F G hn (fun x hx => hF x (List.mem_cons_of_mem _ hx)) (fun x hx => hG x (List.mem_cons_of_mem _ hx)) (fun i hi => ?_)
      rcases List.mem_append.1 hi with h | h
      · exact hS i h
      · rw [List.mem_singleton] at h
        subst h
        rw [hF g List.mem_cons_self, hG g List.mem_cons_self]
        exact gateV_congr (fun y hy => hS _ (hlit y hy)) hf
    · cases hn
/-- Gates in any order are put in an order in which they are valid, with the same value. -/
theorem order_perm {P : List Blk} {gs l : List Gt} {o : Int} (h : mayN P gs o = true) (p : l.Perm gs) :
    looseN (flatB P) l = true ∧ sizeG l ≤ 200000 ∧ ∀ T, OrdR (flatB P) l [] T → T.Nodup → (∀ i ∈ T, i < l.length) → T.length = l.length ∧ mayN P (T.map (fun i => l.getD i dG)) o = true ∧ ∀ a, litV (runA (T.map (fun i => l.getD i dG)) a).1 o = litV (runA gs a).1 o := by
  obtain ⟨R, hp, _, hn, ho, hP⟩ := mayN_named h
  have hv : varsOk (flatB P) := ⟨(mayP_parts hp).2.1, hP⟩
  have hl := loose_perm (named_loose hv hn) p
  have hs : sizeG l ≤ 200000 := by have := named_size _ _ _ _ hn (by omega); have := sizeG_perm p; omega
  refine ⟨hl, hs, fun T hT hnd hlt => ?_⟩
  have hno := ordR_full hT
  rw [List.nil_append] at hno
  have hperm := taken_perm hn hv p hno hnd hlt
  have hpo : (T.map (fun i => l.getD i dG)).Perm l := by
    have := hperm.map (fun i => l.getD i dG)
    rwa [map_getD] at this
  have hR : R = flatB P ++ gv gs := namedL_full _ _ _ _ hn
  have hnm := order_named hl hT (by simpa using hnd) (by simpa using hlt) 0 (by have := sizeG_perm hpo; omega)
  have e0 : vT l [] = [] := rfl
  rw [e0, List.append_nil, List.nil_append] at hnm
  have hvt : vT l T = gv (T.map (fun i => l.getD i dG)) := by unfold vT gv; rw [List.map_map]; rfl
  have hgp : (gv (T.map (fun i => l.getD i dG))).Perm (gv gs) := (hpo.trans p).map _
  refine ⟨by have := hperm.length_eq; simpa using this, mayN_of (R := flatB P ++ vT l T) (by unfold namedN; rw [if_pos hp]; exact hnm) ?_, fun a => ?_⟩
  · rw [hvt]
    rw [hR] at ho
    rcases List.mem_append.1 ho with k | k
    · exact List.mem_append.2 (.inl k)
    · exact List.mem_append.2 (.inr (hgp.mem_iff.2 k))
  · have f1 := named_fit _ _ _ _ (setA (fun _ => false) a) [] hnm
    have f2 := named_fit _ _ _ _ (setA (fun _ => false) a) [] hn
    refine litV_congr ?_
    exact fit_one gs _ R 0 _ _ hn (fun g hg => f1.1 g ((hpo.trans p).mem_iff.2 hg)) f2.1 (fun i hi => by rw [f1.2 i hi, f2.2 i hi]) _ ho
end Go.Proofs.Yticcikelapifaaa
