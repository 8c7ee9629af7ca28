/- Joined texts: AgPCone, AgPAgain, AgPNet, AgRSame. -/
import Derived.Test.YtfghjfljomcldaaGreatA13
import Derived.Test.YtfghjfljomcldaaGreatA11
import Derived.Test.YtfghjfljomcldaaGreatCxRInts
/- Pure: the cone of a reduced graph has the nodes that are reached, with new numbers; the cone of a cone is itself. -/
namespace Go.Proofs.YtfghjfljomcldaaGreat
set_option linter.unusedVariables false
set_option linter.unusedSimpArgs false

theorem idx_lt {ns : List Int} (h : ns.Pairwise (· < ·)) {x y : Int} (hx : x ∈ ns) (hy : y ∈ ns) (hxy : x < y) : ns.idxOf x < ns.idxOf y := by
  have hi := List.idxOf_lt_length_of_mem hx
  have hj := List.idxOf_lt_length_of_mem hy
  refine Nat.lt_of_not_le (fun hle => ?_)
  have e1 : ns[ns.idxOf x] = x := List.getElem_idxOf hi
  have e2 : ns[ns.idxOf y] = y := List.getElem_idxOf hj
  rcases Nat.lt_or_ge (ns.idxOf y) (ns.idxOf x) with hl | hg
  · have := List.pairwise_iff_getElem.1 h _ _ hj hi hl
    rw [e1, e2] at this
    omega
  · have he : ns.idxOf y = ns.idxOf x := by omega
    have : y = x := by rw [← e2, ← e1]; congr 1
    omega
/-- The new number of a node, when the nodes from k on that stay are these. -/
def rhoN (k : Nat) (ns : List Int) (n : Nat) : Nat := if n < k then n else k + ns.idxOf (n : Int)
def mvE (k : Nat) (ns : List Int) (e : Int) : Int := 2 * (rhoN k ns (e / 2).toNat : Int) + e % 2
def prN (k : Nat) (ns : List Int) (A : List Pr) (n : Int) : Pr := (mvE k ns (A.getD (n.toNat - k) dPr).1, mvE k ns (A.getD (n.toNat - k) dPr).2)
theorem rho_lt {k : Nat} {ns : List Int} (h : ns.Pairwise (· < ·)) {p q : Nat} (hp : p < k ∨ (p : Int) ∈ ns) (hq : q < k ∨ (q : Int) ∈ ns) (hpq : p < q) : rhoN k ns p < rhoN k ns q := by
  unfold rhoN
  by_cases c1 : p < k
  · rw [if_pos c1]
    by_cases c2 : q < k
    · rw [if_pos c2]; exact hpq
    · rw [if_neg c2]; omega
  · have c2 : ¬ q < k := by omega
    rw [if_neg c1, if_neg c2]
    have := idx_lt h (hp.resolve_left c1) (hq.resolve_left c2) (by omega)
    omega
theorem rho_inj {k : Nat} {ns : List Int} (h : ns.Pairwise (· < ·)) {p q : Nat} (hp : p < k ∨ (p : Int) ∈ ns) (hq : q < k ∨ (q : Int) ∈ ns) (e : rhoN k ns p = rhoN k ns q) : p = q := by
  rcases Nat.lt_trichotomy p q with hl | rfl | hg
  · have := rho_lt h hp hq hl; omega
  · rfl
  · have := rho_lt h hq hp hg; omega
theorem mv_inj {k : Nat} {ns : List Int} (h : ns.Pairwise (· < ·)) {a b : Int} (ha : 0 ≤ a) (hb : 0 ≤ b) (hp : (a / 2).toNat < k ∨ (((a / 2).toNat : Nat) : Int) ∈ ns) (hq : (b / 2).toNat < k ∨ (((b / 2).toNat : Nat) : Int) ∈ ns) (e : mvE k ns a = mvE k ns b) : a = b := by
  unfold mvE at e
  have := rho_inj h hp hq (by omega)
  omega
/-- Which nodes of a valid graph stay in a cone. -/
def stayN (k : Nat) (A : List Pr) (l : List Int) : List Int := onN (reachA k A l) k A.length
theorem stay_mem {k : Nat} {A : List Pr} {l : List Int} (hA : okUpto k A A.length = true) (hl : edgesB l (k + A.length) = true) {n : Nat} : (n : Int) ∈ stayN k A l ↔ k ≤ n ∧ RchN k A l n := by
  unfold stayN
  rw [onN_mem]
  constructor
  · rintro ⟨i, e, h1, h2, h3⟩
    have : n = i := by omega
    subst this
    exact ⟨h1, (reach_iff hA hl).1 h3⟩
  · rintro ⟨h1, h2⟩
    exact ⟨n, rfl, h1, rch_lt hA hl h2, (reach_iff hA hl).2 h2⟩
theorem stay_or {k : Nat} {A : List Pr} {l : List Int} (hA : okUpto k A A.length = true) (hl : edgesB l (k + A.length) = true) {n : Nat} (h : RchN k A l n) : n < k ∨ (n : Int) ∈ stayN k A l := by
  by_cases c : n < k
  · exact .inl c
  · exact .inr ((stay_mem hA hl).2 ⟨by omega, h⟩)
/-- What the copier comes to. -/
structure ConeAt (k : Nat) (A : List Pr) (l : List Int) (j : Nat) (st : List Int × Mq) : Prop where
  made : st.2 = (((stayN k A l).take j).map (prN k (stayN k A l) A), false)
  len : st.1.length = k + A.length
  at_ : ∀ n, RchN k A l n → (n < k ∨ (n : Int) ∈ (stayN k A l).take j) → st.1.getD n 0 = 2 * (rhoN k (stayN k A l) n : Int)
theorem conj_new {k : Nat} {s : List Pr} {x y : Int} (h1 : 2 ≤ x) (h2 : x < y) (h3 : notE x ≠ y) (h4 : (x, y) ∉ s) (h5 : k + s.length < 200000) : conjA k (s, false) x y = (2 * ((k + s.length : Nat) : Int), (s ++ [(x, y)], false)) := by
  unfold conjA
  rw [Int.min_eq_left (by omega), Int.max_eq_right (by omega)]
  unfold conjO
  rw [if_neg (fun h => h.elim (fun e => by omega) (fun e => h3 e.symm)), if_neg (fun h => h.elim (fun e => by omega) (fun e => by omega)), if_neg h4, if_neg (show ¬ k + s.length = 200000 by omega)]
theorem movE_mv {k : Nat} {ns t : List Int} {e : Int} (h0 : 0 ≤ e) (ht : t.getD (e / 2).toNat 0 = 2 * (rhoN k ns (e / 2).toNat : Int)) : movE t e = mvE k ns e := by
  unfold movE mvE
  rw [ht]
  by_cases c : e % 2 = 0
  · rw [if_pos c, c]; omega
  · rw [if_neg c]
    unfold notE
    rw [if_pos (by omega)]
    omega
theorem cone_fold {I : List Int} {A : List Pr} {l : List Int} {img : Int → Int} (hm : mayA I A = true) (hr : RedA A) (hl : edgesB l (1 + I.length + A.length) = true) (hi : ∀ j, j < I.length → img (I.getD j 0) = 2 * ((j : Int) + 1)) :
    ∀ j, j ≤ (stayN (1 + I.length) A l).length → ConeAt (1 + I.length) A l j (((stayN (1 + I.length) A l).take j).foldl (cpAnd (1 + I.length) A (1 + I.length)) (cpIns I A img l, ([], false))) := by
  obtain ⟨hroom, hI, hA⟩ := mayA_parts hm
  have hsrt : (stayN (1 + I.length) A l).Pairwise (· < ·) := onN_sorted _ _ _
  have hmem := @stay_mem (1 + I.length) A l hA hl
  have hor := @stay_or (1 + I.length) A l hA hl
  have hlen : (stayN (1 + I.length) A l).length ≤ A.length := onN_len _ _ _
  intro j
  induction j with
  | zero =>
    intro _
    refine ⟨by simp, by rw [List.take_zero]; show (cpIns I A img l).length = _; unfold cpIns; rw [cpIns_len, List.length_replicate], ?_⟩
    intro n hn hor2
    rw [List.take_zero]
    show (cpIns I A img l).getD n 0 = _
    have hnk : n < 1 + I.length := by
      rcases hor2 with h | h
      · exact h
      · simp at h
    unfold cpIns rhoN
    rw [cpIns_at _ _ (fun y hy => by obtain ⟨q, rfl, _⟩ := onN_mem.1 hy; omega) n (by rw [List.length_replicate]; omega), if_pos hnk]
    cases n with
    | zero =>
      rw [if_neg (fun h => by obtain ⟨q, hq, h1, _⟩ := onN_mem.1 h; omega)]
      simp [List.getD, List.getElem?_replicate]
      split <;> rfl
    | succ i =>
      rw [if_pos (onN_mem.2 ⟨i + 1, rfl, by omega, by omega, (reach_iff hA hl).2 hn⟩)]
      show img (I.getD i 0) = _
      rw [hi i (by omega)]
      omega
  | succ j ih =>
    intro hj
    have hst := ih (by omega)
    have hjl : j < (stayN (1 + I.length) A l).length := by omega
    rw [ints_take_succ hjl, List.foldl_append, List.foldl_cons, List.foldl_nil]
    generalize hsg : ((stayN (1 + I.length) A l).take j).foldl (cpAnd (1 + I.length) A (1 + I.length)) (cpIns I A img l, ([], false)) = st at *
    have hnm : (stayN (1 + I.length) A l).getD j 0 ∈ stayN (1 + I.length) A l := by simp [List.getD, hjl]
    have hat : (stayN (1 + I.length) A l).getD j 0 = (stayN (1 + I.length) A l)[j] := by simp [List.getD, hjl]
    obtain ⟨n, hn, n1, n2, _⟩ := onN_mem.1 hnm
    rw [hn] at hnm hat ⊢
    obtain ⟨_, hnr⟩ := hmem.1 hnm
    obtain ⟨i, rfl⟩ : ∃ i, n = 1 + I.length + i := ⟨n - (1 + I.length), by omega⟩
    have hi2 : i < A.length := by omega
    obtain ⟨r1, r2, r3, r4⟩ := hr i hi2
    have hp := okPair_bd hA hi2
    have ha := RchN.fst hi2 hnr
    have hb := RchN.snd hi2 hnr
    have hidx : (stayN (1 + I.length) A l).idxOf (((1 + I.length + i : Nat)) : Int) = j := by
      rw [hat]
      exact List.Nodup.idxOf_getElem (hsrt.imp (fun h => by omega)) j hjl
    have htk : ∀ c : Nat, RchN (1 + I.length) A l c → c < 1 + I.length + i → c < 1 + I.length ∨ (c : Int) ∈ (stayN (1 + I.length) A l).take j := by
      intro c hc hlt
      rcases hor hc with h | h
      · exact .inl h
      · refine .inr ?_
        have := idx_lt hsrt h hnm (by omega)
        rw [hidx] at this
        have hcl := List.idxOf_lt_length_of_mem h
        rw [← List.getElem_idxOf hcl]
        exact List.mem_take_iff_getElem.2 ⟨_, by omega, rfl⟩
    have e1 : movE st.1 (A.getD i dPr).1 = mvE (1 + I.length) (stayN (1 + I.length) A l) (A.getD i dPr).1 := movE_mv hp.1.1 (hst.at_ _ ha (htk _ ha (by omega)))
    have e2 : movE st.1 (A.getD i dPr).2 = mvE (1 + I.length) (stayN (1 + I.length) A l) (A.getD i dPr).2 := movE_mv hp.2.1 (hst.at_ _ hb (htk _ hb (by omega)))
    have hab : mvE (1 + I.length) (stayN (1 + I.length) A l) (A.getD i dPr).1 < mvE (1 + I.length) (stayN (1 + I.length) A l) (A.getD i dPr).2 ∧ notE (mvE (1 + I.length) (stayN (1 + I.length) A l) (A.getD i dPr).1) ≠ mvE (1 + I.length) (stayN (1 + I.length) A l) (A.getD i dPr).2 := by
      have hlt : ((A.getD i dPr).1 / 2).toNat < ((A.getD i dPr).2 / 2).toNat := by
        unfold notE at r3
        split at r3 <;> omega
      have := rho_lt hsrt (hor ha) (hor hb) hlt
      unfold mvE notE
      refine ⟨by omega, ?_⟩
      split <;> omega
    have h2 : 2 ≤ mvE (1 + I.length) (stayN (1 + I.length) A l) (A.getD i dPr).1 := by
      have : 0 < rhoN (1 + I.length) (stayN (1 + I.length) A l) ((A.getD i dPr).1 / 2).toNat := by
        unfold rhoN
        split <;> omega
      unfold mvE
      omega
    have hnin : (mvE (1 + I.length) (stayN (1 + I.length) A l) (A.getD i dPr).1, mvE (1 + I.length) (stayN (1 + I.length) A l) (A.getD i dPr).2) ∉ ((stayN (1 + I.length) A l).take j).map (prN (1 + I.length) (stayN (1 + I.length) A l) A) := by
      intro hin
      obtain ⟨x, hx, hpx⟩ := List.mem_map.1 hin
      obtain ⟨q, hq, hqe⟩ := List.mem_take_iff_getElem.1 hx
      have hxm : x ∈ stayN (1 + I.length) A l := List.mem_of_mem_take hx
      obtain ⟨n', rfl, m1, m2, _⟩ := onN_mem.1 hxm
      obtain ⟨_, hnr'⟩ := hmem.1 hxm
      obtain ⟨i', rfl⟩ : ∃ i', n' = 1 + I.length + i' := ⟨n' - (1 + I.length), by omega⟩
      have hi' : i' < A.length := by omega
      have hp' := okPair_bd hA hi'
      unfold prN at hpx
      rw [show ((1 + I.length + i' : Nat) : Int).toNat - (1 + I.length) = i' from by omega] at hpx
      have hp1 := congrArg Prod.fst hpx
      have hp2 := congrArg Prod.snd hpx
      have q1 := mv_inj hsrt hp'.1.1 hp.1.1 (hor (RchN.fst hi' hnr')) (hor ha) hp1
      have q2 := mv_inj hsrt hp'.2.1 hp.2.1 (hor (RchN.snd hi' hnr')) (hor hb) hp2
      have hpe : A.getD i' dPr = A.getD i dPr := Prod.ext q1 q2
      have f1 := (hr i' hi').2.2.2
      rw [hpe, r4] at f1
      have hii : i' = i := by omega
      subst hii
      have hlt := List.pairwise_iff_getElem.1 hsrt q j (by omega) hjl (by omega)
      rw [hqe, ← hat] at hlt
      omega
    have hcs : cpAnd (1 + I.length) A (1 + I.length) st ((1 + I.length + i : Nat) : Int) = (st.1.set (1 + I.length + i) (2 * ((1 + I.length + j : Nat) : Int)), (((stayN (1 + I.length) A l).take j).map (prN (1 + I.length) (stayN (1 + I.length) A l) A) ++ [prN (1 + I.length) (stayN (1 + I.length) A l) A ((1 + I.length + i : Nat) : Int)], false)) := by
      unfold cpAnd
      rw [show ((1 + I.length + i : Nat) : Int).toNat = 1 + I.length + i from by omega, show 1 + I.length + i - (1 + I.length) = i from by omega, e1, e2, hst.made,
        conj_new h2 hab.1 hab.2 hnin (by rw [List.length_map, List.length_take]; omega)]
      rw [List.length_map, List.length_take, Nat.min_eq_left (by omega)]
      unfold prN
      rw [show ((1 + I.length + i : Nat) : Int).toNat - (1 + I.length) = i from by omega]
    rw [hcs]
    refine ⟨by rw [ints_take_succ hjl, List.map_append, hn]; rfl, by rw [List.length_set]; exact hst.len, ?_⟩
    intro c hc hco
    show (st.1.set _ _).getD c 0 = _
    rw [getD_setI (by rw [hst.len]; omega)]
    by_cases ce : c = 1 + I.length + i
    · subst ce
      rw [if_pos rfl]
      unfold rhoN
      rw [if_neg (by omega), hidx]
    · rw [if_neg ce]
      refine hst.at_ c hc ?_
      rcases hco with h | h
      · exact .inl h
      · rw [ints_take_succ hjl, hn] at h
        rcases List.mem_append.1 h with h | h
        · exact .inr h
        · simp at h; omega
theorem restI_nil (I : List Int) : restI [] I = I := by unfold restI fixF; simp
theorem restImg_nil {I : List Int} (hI : I.Pairwise (· < ·)) {j : Nat} (hj : j < I.length) : restImg [] I (I.getD j 0) = 2 * ((j : Int) + 1) := by
  unfold restImg orA
  rw [restI_nil]
  show (Option.getD none _) = _
  rw [Option.getD_none]
  show 2 * placeA I (I.getD j 0) = _
  rw [placeA_at hI hj]
/-- The cone of a reduced graph. -/
theorem cone_red {I : List Int} {A : List Pr} {l : List Int} (hm : mayA I A = true) (hr : RedA A) (hl : edgesB l (1 + I.length + A.length) = true) :
    coneR I A l = ((I, (stayN (1 + I.length) A l).map (prN (1 + I.length) (stayN (1 + I.length) A l) A)), l.map (mvE (1 + I.length) (stayN (1 + I.length) A l)), 0) := by
  obtain ⟨hroom, hI, hA⟩ := mayA_parts hm
  have hc := cone_fold (img := restImg [] I) hm hr hl (fun j hj => restImg_nil (insB_lt hI).2 hj) _ (Nat.le_refl _)
  rw [List.take_length] at hc
  have hh : hasA I A l = true := by unfold hasA; rw [hm, hl]; rfl
  unfold coneR restR
  rw [if_pos ⟨hh, rfl⟩]
  have hcp : cpAll (1 + (restI [] I).length) I A (restImg [] I) l ([], false) = (stayN (1 + I.length) A l).foldl (cpAnd (1 + I.length) A (1 + I.length)) (cpIns I A (restImg [] I) l, ([], false)) := by
    rw [restI_nil]; rfl
  have h2 := hc.made
  rw [← hcp] at h2 hc
  have h1 : l.map (movE (cpAll (1 + (restI [] I).length) I A (restImg [] I) l ([], false)).1) = l.map (mvE (1 + I.length) (stayN (1 + I.length) A l)) := by
    refine List.map_congr_left (fun e he => ?_)
    have hb := edgesB_true.1 hl e he
    refine movE_mv hb.1 (hc.at_ _ (.edge he) ?_)
    have := stay_or hA hl (RchN.edge (k := 1 + I.length) (A := A) he)
    rw [List.take_length]
    exact this
  unfold restC copyA
  rw [h1, h2, restI_nil, List.take_length]
end Go.Proofs.YtfghjfljomcldaaGreat

/- Pure: the cone of a cone is the same; supports stay. -/
namespace Go.Proofs.YtfghjfljomcldaaGreat
set_option linter.unusedVariables false
set_option linter.unusedSimpArgs false

/-- What Restrict makes is a valid and reduced graph that has the edges. -/
theorem rest_valid {I : List Int} {A : List Pr} {l a : List Int} (h : hasA I A l = true) (ha : mayB a = true) :
    mayA (restI a I) (restC I A l a).2.1 = true ∧ RedA (restC I A l a).2.1 ∧ edgesB (restC I A l a).1 (1 + (restI a I).length + (restC I A l a).2.1.length) = true ∧ (restC I A l a).1.length = l.length := by
  obtain ⟨hm, hA, hl⟩ := hasA_parts h
  obtain ⟨hroom, hI, _⟩ := mayA_parts hm
  have hlen : (restI a I).length ≤ I.length := List.length_filter_le _ _
  have hs : MOk (1 + (restI a I).length) ([], false) := ⟨rfl, by simp; omega⟩
  have hi : ∀ v ∈ I, isE (restImg a I v) (1 + (restI a I).length + ([] : List Pr).length) = true := fun v _ => by simpa using restImg_isE a I v
  have hc := copyA_made (k := 1 + (restI a I).length) (I := I) (A := A) (img := restImg a I) (l := l) (s := ([], false)) (by omega) hs hA hi hl
  have hr := copyA_red (k := 1 + (restI a I).length) (I := I) (A := A) (img := restImg a I) (l := l) (s := ([], false)) (by omega) hs RedA.nil hA hi
  obtain ⟨_, hok, hed, _, hln⟩ := hc
  refine ⟨?_, hr, ?_, hln⟩
  · unfold mayA
    rw [decide_eq_true (show 1 + (restI a I).length + (restC I A l a).2.1.length ≤ 200000 from hok.room), show insB (restI a I) = true from insB_filter hI _, show okUpto (1 + (restI a I).length) (restC I A l a).2.1 (restC I A l a).2.1.length = true from hok.ok]
    rfl
  · rw [edgesB_true]
    exact fun e he => isE_true.1 (hed e he)
theorem mv_half {k : Nat} {ns : List Int} {e : Int} : (mvE k ns e / 2).toNat = rhoN k ns (e / 2).toNat := by
  unfold mvE
  omega
theorem rch_mono {k : Nat} {A : List Pr} {m l : List Int} (h : ∀ e ∈ m, e ∈ l) {n : Nat} (hn : RchN k A m n) : RchN k A l n := by
  induction hn with
  | edge he => exact .edge (h _ he)
  | fst hi _ ih => exact .fst hi ih
  | snd hi _ ih => exact .snd hi ih
theorem pr_at {k : Nat} {A : List Pr} {ns : List Int} {i : Nat} (hm : ((k + i : Nat) : Int) ∈ ns) : ns.idxOf ((k + i : Nat) : Int) < (ns.map (prN k ns A)).length ∧ (ns.map (prN k ns A)).getD (ns.idxOf ((k + i : Nat) : Int)) dPr = (mvE k ns (A.getD i dPr).1, mvE k ns (A.getD i dPr).2) := by
  have hi := List.idxOf_lt_length_of_mem hm
  refine ⟨by rw [List.length_map]; exact hi, ?_⟩
  have e1 : ns[ns.idxOf ((k + i : Nat) : Int)] = ((k + i : Nat) : Int) := List.getElem_idxOf hi
  simp only [List.getD, List.getElem?_map, List.getElem?_eq_getElem hi, Option.map_some, Option.getD_some]
  rw [e1]
  unfold prN
  rw [show ((k + i : Nat) : Int).toNat - k = i from by omega]
  rfl
theorem rch_to {k : Nat} {A : List Pr} {l m : List Int} (hA : okUpto k A A.length = true) (hl : edgesB l (k + A.length) = true) (hml : ∀ e ∈ m, e ∈ l) {n : Nat} (h : RchN k A m n) :
    RchN k ((stayN k A l).map (prN k (stayN k A l) A)) (m.map (mvE k (stayN k A l))) (rhoN k (stayN k A l) n) := by
  induction h with
  | @edge e he => rw [← mv_half]; exact .edge (List.mem_map_of_mem he)
  | @fst i hi hr ih =>
    have hm := (stay_mem hA hl).2 ⟨by omega, rch_mono hml hr⟩
    obtain ⟨h1, h2⟩ := pr_at (A := A) hm
    have hf := RchN.fst (l := m.map (mvE k (stayN k A l))) (k := k) h1 (by
      have : rhoN k (stayN k A l) (k + i) = k + (stayN k A l).idxOf ((k + i : Nat) : Int) := by unfold rhoN; rw [if_neg (by omega)]
      rw [← this]; exact ih)
    rw [h2] at hf
    rw [← mv_half]
    exact hf
  | @snd i hi hr ih =>
    have hm := (stay_mem hA hl).2 ⟨by omega, rch_mono hml hr⟩
    obtain ⟨h1, h2⟩ := pr_at (A := A) hm
    have hf := RchN.snd (l := m.map (mvE k (stayN k A l))) (k := k) h1 (by
      have : rhoN k (stayN k A l) (k + i) = k + (stayN k A l).idxOf ((k + i : Nat) : Int) := by unfold rhoN; rw [if_neg (by omega)]
      rw [← this]; exact ih)
    rw [h2] at hf
    rw [← mv_half]
    exact hf
theorem rho_high {k : Nat} {ns : List Int} {n j : Nat} (h : rhoN k ns n = k + j) : k ≤ n ∧ ns.idxOf (n : Int) = j := by
  unfold rhoN at h
  split at h <;> omega
theorem rch_from {k : Nat} {A : List Pr} {l m : List Int} (hA : okUpto k A A.length = true) (hl : edgesB l (k + A.length) = true) (hml : ∀ e ∈ m, e ∈ l) {q : Nat} (h : RchN k ((stayN k A l).map (prN k (stayN k A l) A)) (m.map (mvE k (stayN k A l))) q) :
    ∃ n, RchN k A m n ∧ rhoN k (stayN k A l) n = q := by
  induction h with
  | @edge e' he =>
    obtain ⟨e, he2, rfl⟩ := List.mem_map.1 he
    exact ⟨_, .edge he2, mv_half.symm⟩
  | @fst j hj hr ih =>
    obtain ⟨n, hn, hq⟩ := ih
    obtain ⟨h1, h2⟩ := rho_high hq
    have hm := (stay_mem hA hl).2 ⟨h1, rch_mono hml hn⟩
    obtain ⟨i, rfl⟩ : ∃ i, n = k + i := ⟨n - k, by omega⟩
    obtain ⟨_, h4⟩ := pr_at (A := A) hm
    rw [h2] at h4
    have hlt := rch_lt hA (edgesB_true.2 (fun e he => edgesB_true.1 hl e (hml e he))) hn
    refine ⟨_, RchN.fst (by omega) hn, ?_⟩
    rw [h4, ← mv_half]
  | @snd j hj hr ih =>
    obtain ⟨n, hn, hq⟩ := ih
    obtain ⟨h1, h2⟩ := rho_high hq
    have hm := (stay_mem hA hl).2 ⟨h1, rch_mono hml hn⟩
    obtain ⟨i, rfl⟩ : ∃ i, n = k + i := ⟨n - k, by omega⟩
    obtain ⟨_, h4⟩ := pr_at (A := A) hm
    rw [h2] at h4
    have hlt := rch_lt hA (edgesB_true.2 (fun e he => edgesB_true.1 hl e (hml e he))) hn
    refine ⟨_, RchN.snd (by omega) hn, ?_⟩
    rw [h4, ← mv_half]
theorem stay_full {k : Nat} {A : List Pr} {l : List Int} (h : ∀ j, j < A.length → (((k + j : Nat)) : Int) ∈ stayN k A l) : stayN k A l = (List.range' k A.length).map (fun i : Nat => (i : Int)) := by
  have h2 : ((List.range' k A.length).map (fun i : Nat => (i : Int))).Pairwise (· < ·) := by
    rw [List.pairwise_map]
    exact (List.pairwise_lt_range' (s := k) (n := A.length)).imp (fun h => by omega)
  have h1 : (stayN k A l).Pairwise (· < ·) := onN_sorted _ _ _
  refine List.Perm.eq_of_pairwise (le := (· < ·)) (fun a b _ _ h1 h2 => by omega) h1 h2 ((List.perm_ext_iff_of_nodup (h1.imp (fun h => by omega)) (h2.imp (fun h => by omega))).2 (fun x => ?_))
  constructor
  · intro hx
    unfold stayN at hx
    obtain ⟨q, rfl, q1, q2, _⟩ := onN_mem.1 hx
    exact List.mem_map.2 ⟨q, List.mem_range'_1.2 ⟨q1, q2⟩, rfl⟩
  · intro hx
    obtain ⟨q, hq, rfl⟩ := List.mem_map.1 hx
    obtain ⟨q1, q2⟩ := List.mem_range'_1.1 hq
    have := h (q - k) (by omega)
    rw [show k + (q - k) = q from by omega] at this
    exact this
theorem rho_id {k n m : Nat} (h : n < k + m) : rhoN k ((List.range' k m).map (fun i : Nat => (i : Int))) n = n := by
  unfold rhoN
  split
  · rfl
  · have hs : ((List.range' k m).map (fun i : Nat => (i : Int))).Nodup := by
      refine List.Pairwise.imp (R := (· < ·)) (fun h => by omega) ?_
      rw [List.pairwise_map]
      exact (List.pairwise_lt_range' (s := k) (n := m)).imp (fun h => by omega)
    have hl : n - k < ((List.range' k m).map (fun i : Nat => (i : Int))).length := by simp; omega
    have h2 := List.Nodup.idxOf_getElem hs (n - k) hl
    rw [show ((List.range' k m).map (fun i : Nat => (i : Int)))[n - k] = (n : Int) from by simp; omega] at h2
    rw [h2]
    omega
theorem mv_id {k m : Nat} {e : Int} (h0 : 0 ≤ e) (h : e / 2 < ((k + m : Nat) : Int)) : mvE k ((List.range' k m).map (fun i : Nat => (i : Int))) e = e := by
  unfold mvE
  rw [rho_id (by omega)]
  omega
/-- A reduced graph of which the edges reach all Ands is its own cone. -/
theorem cone_same {I : List Int} {A : List Pr} {l : List Int} (hm : mayA I A = true) (hr : RedA A) (hl : edgesB l (1 + I.length + A.length) = true) (h : ∀ j, j < A.length → RchN (1 + I.length) A l (1 + I.length + j)) : coneR I A l = ((I, A), l, 0) := by
  obtain ⟨hroom, hI, hA⟩ := mayA_parts hm
  have hs := stay_full (k := 1 + I.length) (A := A) (l := l) (fun j hj => (stay_mem hA hl).2 ⟨by omega, h j hj⟩)
  rw [cone_red hm hr hl, hs]
  have e1 : ((List.range' (1 + I.length) A.length).map (fun i : Nat => (i : Int))).map (prN (1 + I.length) ((List.range' (1 + I.length) A.length).map (fun i : Nat => (i : Int))) A) = A := by
    refine List.ext_getElem (by simp) (fun i h1 h2 => ?_)
    have hp := okPair_bd hA h2
    rw [show A.getD i dPr = A[i] from by simp [List.getD, h2]] at hp
    simp only [List.getElem_map, List.getElem_range']
    unfold prN
    rw [show ((1 + I.length + 1 * i : Nat) : Int).toNat - (1 + I.length) = i from by omega, show A.getD i dPr = A[i] from by simp [List.getD, h2], mv_id hp.1.1 (by have := hp.1.2; omega), mv_id hp.2.1 (by have := hp.2.2; omega)]
  have e2 : l.map (mvE (1 + I.length) ((List.range' (1 + I.length) A.length).map (fun i : Nat => (i : Int)))) = l := by
    conv => rhs; rw [← List.map_id l]
    refine List.map_congr_left (fun e he => ?_)
    have := edgesB_true.1 hl e he
    exact mv_id this.1 this.2
  rw [e1, e2]
/-- The cone of a reduced graph: valid, its Ands are those that are reached, all of them are, and its own cone is itself. -/
theorem cone_again {I : List Int} {A : List Pr} {l : List Int} (hm : mayA I A = true) (hr : RedA A) (hl : edgesB l (1 + I.length + A.length) = true) :
    ((coneR I A l).1.1 = I ∧ (coneR I A l).2.2 = 0 ∧ (coneR I A l).2.1.length = l.length ∧ (coneR I A l).1.2.length = (sizeA I A l).1) ∧ mayA I (coneR I A l).1.2 = true ∧ RedA (coneR I A l).1.2 ∧ hasA I (coneR I A l).1.2 (coneR I A l).2.1 = true ∧
      coneR I (coneR I A l).1.2 (coneR I A l).2.1 = coneR I A l := by
  obtain ⟨hroom, hI, hA⟩ := mayA_parts hm
  have hh : hasA I A l = true := by unfold hasA; rw [hm, hl]; rfl
  obtain ⟨v1, v2, v3, v4⟩ := rest_valid (a := []) hh rfl
  have hce : coneR I A l = ((restI [] I, (restC I A l []).2.1), (restC I A l []).1, 0) := by unfold coneR restR; rw [if_pos ⟨hh, rfl⟩]
  have hcr := cone_red hm hr hl
  rw [restI_nil] at hce v1 v3
  have hA2 : (restC I A l []).2.1 = (stayN (1 + I.length) A l).map (prN (1 + I.length) (stayN (1 + I.length) A l) A) := by rw [hce] at hcr; exact congrArg (·.1.2) hcr
  have hl2 : (restC I A l []).1 = l.map (mvE (1 + I.length) (stayN (1 + I.length) A l)) := by rw [hce] at hcr; exact congrArg (·.2.1) hcr
  have hall : ∀ j, j < (restC I A l []).2.1.length → RchN (1 + I.length) (restC I A l []).2.1 (restC I A l []).1 (1 + I.length + j) := by
    rw [hA2, hl2]
    intro j hj
    rw [List.length_map] at hj
    have hmm : (stayN (1 + I.length) A l)[j] ∈ stayN (1 + I.length) A l := List.getElem_mem hj
    obtain ⟨n, hn, n1, n2, _⟩ := onN_mem.1 (show (stayN (1 + I.length) A l)[j] ∈ onN _ _ _ from hmm)
    rw [hn] at hmm
    have := rch_to hA hl (m := l) (fun e he => he) ((stay_mem hA hl).1 hmm).2
    have hs : (stayN (1 + I.length) A l).Pairwise (· < ·) := onN_sorted _ _ _
    have hidx := List.Nodup.idxOf_getElem (hs.imp (fun h => by omega)) j hj
    rw [hn] at hidx
    unfold rhoN at this
    rw [if_neg (by omega), hidx] at this
    exact this
  have hcs := cone_same v1 v2 v3 hall
  rw [hce]
  refine ⟨⟨rfl, rfl, v4, ?_⟩, v1, v2, ?_, hcs⟩
  · show (restC I A l []).2.1.length = _
    rw [hA2, List.length_map]
    unfold sizeA
    rw [if_pos hh]
    rfl
  · show hasA I (restC I A l []).2.1 (restC I A l []).1 = true
    unfold hasA
    rw [v1, v3]
    rfl
theorem onN_congr {m m' : List Bool} {a n : Nat} (h : ∀ i, a ≤ i → i < a + n → m.getD i false = m'.getD i false) : onN m a n = onN m' a n := by
  unfold onN
  congr 1
  refine List.filter_congr (fun i hi => ?_)
  have := List.mem_range'_1.1 hi
  exact h i this.1 this.2
/-- The support of an edge is that of its image in the cone. -/
theorem cone_support {I : List Int} {A : List Pr} {l : List Int} (hm : mayA I A = true) (hr : RedA A) (hl : edgesB l (1 + I.length + A.length) = true) {j : Nat} (hj : j < l.length) :
    supportA I A (l.getD j 0) = supportA I (coneR I A l).1.2 ((coneR I A l).2.1.getD j 0) ∧ (supportA I A (l.getD j 0)).2 = 0 := by
  obtain ⟨hroom, hI, hA⟩ := mayA_parts hm
  have ha := cone_again hm hr hl
  have hcr := cone_red hm hr hl
  obtain ⟨⟨_, _, hln, _⟩, a1, a2, a3, _⟩ := ha
  have hx : l.getD j 0 ∈ l := by simp [List.getD, hj]
  have h1 : hasA I A [l.getD j 0] = true := by
    unfold hasA
    rw [hm, Bool.true_and, edgesB_true]
    intro e he
    rw [List.mem_singleton] at he
    subst he
    exact edgesB_true.1 hl _ hx
  have hgd : (coneR I A l).2.1.getD j 0 ∈ (coneR I A l).2.1 := by rw [← hln] at hj; simp [List.getD, hj]
  obtain ⟨_, b1, b2⟩ := hasA_parts a3
  have h2 : hasA I (coneR I A l).1.2 [(coneR I A l).2.1.getD j 0] = true := by
    unfold hasA
    rw [a1, Bool.true_and, edgesB_true]
    intro e he
    rw [List.mem_singleton] at he
    subst he
    exact edgesB_true.1 b2 _ hgd
  obtain ⟨_, c1, c2⟩ := hasA_parts h1
  obtain ⟨_, d1, d2⟩ := hasA_parts h2
  unfold supportA
  rw [if_pos h1, if_pos h2]
  refine ⟨?_, rfl⟩
  have hmv : (coneR I A l).2.1.getD j 0 = mvE (1 + I.length) (stayN (1 + I.length) A l) (l.getD j 0) := by rw [hcr]; simp [List.getD, hj]
  have hA2 : (coneR I A l).1.2 = (stayN (1 + I.length) A l).map (prN (1 + I.length) (stayN (1 + I.length) A l) A) := by rw [hcr]
  unfold supA
  rw [onN_congr (m := reachA (1 + I.length) A [l.getD j 0]) (m' := reachA (1 + I.length) (coneR I A l).1.2 [(coneR I A l).2.1.getD j 0]) (fun i i1 i2 => ?_)]
  rw [Bool.eq_iff_iff, reach_iff c1 c2, reach_iff d1 d2, hmv, hA2]
  have hsub : ∀ e ∈ [l.getD j 0], e ∈ l := fun e he => by rw [List.mem_singleton] at he; rw [he]; exact hx
  constructor
  · intro h
    have := rch_to hA hl hsub h
    unfold rhoN at this
    rw [if_pos (by omega)] at this
    exact this
  · intro h
    obtain ⟨n, hn, hq⟩ := rch_from hA hl (m := [l.getD j 0]) hsub h
    unfold rhoN at hq
    split at hq
    · rw [← hq]; exact hn
    · omega
end Go.Proofs.YtfghjfljomcldaaGreat

/- Pure: the graph of a net has the values of the net. -/
namespace Go.Proofs.YtfghjfljomcldaaGreat
set_option linter.unusedVariables false
set_option linter.unusedSimpArgs false

/-- The values of the constant and the inputs. -/
def baseV (I : List Int) (h : Int → Bool) : List Bool := false :: I.map h
theorem baseV_len (I : List Int) (h : Int → Bool) : (baseV I h).length = 1 + I.length := by unfold baseV; simp; omega
theorem baseV_zero (I : List Int) (h : Int → Bool) : (baseV I h).getD 0 false = false := rfl
theorem baseV_at {I : List Int} {h : Int → Bool} {j : Nat} (hj : j < I.length) : (baseV I h).getD (1 + j) false = h (I.getD j 0) := by
  unfold baseV
  rw [Nat.add_comm 1 j]
  simp [List.getD, hj]
/-- The edges of these variables have these values. -/
def NetVal (b : List Bool) (S : List Int) (q : (Int → Option Int) × Mq) (h : Int → Bool) : Prop := ∀ v ∈ S, 1 ≤ v ∧ edgeV (runN b q.2.1) ((q.1 v).getD 0) = h v
theorem edgeOf_val {b : List Bool} {S : List Int} {q : (Int → Option Int) × Mq} {h : Int → Bool} (hv : NetVal b S q h) (hf : EdgF q.1 (b.length + q.2.1.length)) {x : Int} (hx : varC x ∈ S) : edgeV (runN b q.2.1) (edgeOfA q.1 x) = litV h x := by
  obtain ⟨h1, h2⟩ := hv _ hx
  unfold litV edgeOfA
  by_cases c : x < 0
  · have hc : varC x = -x := by
      unfold varC at h1 ⊢
      rw [if_pos c] at h1 ⊢
      split at h1
      · omega
      · rename_i c2; rw [if_neg c2]
    rw [hc] at h2 ⊢
    have h0 : 0 ≤ (q.1 (-x)).getD 0 := by
      cases e : q.1 (-x) with
      | none => simp
      | some y => exact (isE_true.1 (hf _ _ e)).1
    rw [if_pos c, edgeV_not h0, h2, decide_eq_false (by omega)]
    cases h (-x) <;> rfl
  · have hc : varC x = x := by unfold varC; rw [if_neg c]
    rw [hc] at h1 h2 ⊢
    rw [if_neg c, h2, decide_eq_true (by omega)]
    cases h x <;> rfl
theorem anyA_val {b : List Bool} (hb : b.getD 0 false = false) (hl : 1 ≤ b.length) (l : List Int) (s : Mq) (h : MOk b.length s) (he : ∀ e ∈ l, isE e (b.length + s.1.length) = true) (hf : (anyA b.length l s).2.2 = false) (hs : s.2 = false) :
    edgeV (runN b (anyA b.length l s).2.1) (anyA b.length l s).1 = l.any (edgeV (runN b s.1)) := by
  have h1 : isE 1 (b.length + s.1.length) = true := isE_true.2 ⟨by omega, by omega⟩
  have hn : ∀ e ∈ l.map notE, isE e (b.length + s.1.length) = true := fun e hx => by
    obtain ⟨x, hx2, rfl⟩ := List.mem_map.1 hx
    exact notE_isE (he x hx2)
  have hm := allA_made hl (l.map notE) s 1 h h1 hn
  have hv := allA_val hb hl (l.map notE) s 1 h h1 hn hf hs
  unfold anyA
  show edgeV (runN b (allA b.length (l.map notE) s 1).2.1) (notE (allA b.length (l.map notE) s 1).1) = _
  rw [edgeV_not (isE_true.1 hm.edge).1, hv, (edgeV_zero hb hl).2, Bool.true_and, List.all_map]
  rw [show l.all (edgeV (runN b s.1) ∘ notE) = l.all (fun x => !edgeV (runN b s.1) x) from all_congrM (fun x hx => edgeV_not (isE_true.1 (he x hx)).1)]
  rw [List.not_all_eq_any_not]
  simp
theorem gateMk_val {b : List Bool} (hb : b.getD 0 false = false) (hl : 1 ≤ b.length) {S : List Int} {q : (Int → Option Int) × Mq} {h : Int → Bool} {kd : Int} {l : List Int} (hq : NetOk b.length q) (hv : NetVal b S q h) (hfit : fitsB kd l.length = true) (hx : ∀ x ∈ l, varC x ∈ S)
    (hf : (gateMk b.length q.2 kd (l.map (edgeOfA q.1))).2.2 = false) (hs : q.2.2 = false) : edgeV (runN b (gateMk b.length q.2 kd (l.map (edgeOfA q.1))).2.1) (gateMk b.length q.2 kd (l.map (edgeOfA q.1))).1 = gateV h kd l := by
  have hins := hq.ins hl l
  have hn := fits_need hfit
  have hval : ∀ x ∈ l, edgeV (runN b q.2.1) (edgeOfA q.1 x) = litV h x := fun x hxl => edgeOf_val hv hq.fe (hx x hxl)
  have hgd : ∀ i, i < l.length → (l.map (edgeOfA q.1)).getD i 0 = edgeOfA q.1 (l.getD i 0) := fun i hi => by simp [List.getD, hi]
  have hmem : ∀ i, i < l.length → l.getD i 0 ∈ l := fun i hi => by simp [List.getD, hi]
  have hie : ∀ i, i < l.length → isE (edgeOfA q.1 (l.getD i 0)) (b.length + q.2.1.length) = true := fun i hi => hins _ (List.mem_map_of_mem (hmem i hi))
  unfold gateMk at hf ⊢
  unfold gateV
  by_cases c1 : kd = 1
  · rw [if_pos c1] at hf ⊢
    rw [if_pos c1, allA_val hb hl _ _ _ hq.ok (isE_true.2 ⟨by omega, by omega⟩) hins hf hs, (edgeV_zero hb hl).2, Bool.true_and, List.all_map]
    exact all_congrM hval
  · rw [if_neg c1] at hf ⊢
    rw [if_neg c1]
    by_cases c2 : kd = 2
    · rw [if_pos c2] at hf ⊢
      rw [if_pos c2, anyA_val hb hl _ _ hq.ok hins hf hs, List.any_map]
      exact any_congrM hval
    · rw [if_neg c2] at hf ⊢
      rw [if_neg c2]
      by_cases c3 : kd = 3
      · have h2 := hn.1 c3
        rw [if_pos c3] at hf ⊢
        rw [hgd 0 (by omega), hgd 1 (by omega)] at hf ⊢
        rw [if_pos c3, exclA_val hb hl hq.ok (hie 0 (by omega)) (hie 1 (by omega)) hf hs, hval _ (hmem 0 (by omega)), hval _ (hmem 1 (by omega))]
      · have h2 := hn.2.1 c1 c2 c3
        rw [if_neg c3] at hf ⊢
        rw [hgd 0 (by omega), hgd 1 (by omega), hgd 2 (by omega)] at hf ⊢
        rw [if_neg c3, iteA_val hb hl hq.ok (hie 0 (by omega)) (hie 1 (by omega)) (hie 2 (by omega)) hf hs, hval _ (hmem 0 (by omega)), hval _ (hmem 1 (by omega)), hval _ (hmem 2 (by omega))]
theorem netFold_val {b : List Bool} (hb : b.getD 0 false = false) (hl : 1 ≤ b.length) : ∀ (gs : List Gt) (S : List Int) (t : Nat) (R : List Int) (q : (Int → Option Int) × Mq) (h : Int → Bool) (acc : List Bool), namedL S t gs = some R → NetOk b.length q → NetVal b S q h →
    (gs.foldl (gStepN b.length) q).2.2 = false → NetVal b R (gs.foldl (gStepN b.length) q) (gs.foldl gStep (h, acc)).1
  | [], S, t, R, q, h, acc, hn, _, hv, _ => by
    unfold namedL at hn
    cases hn
    exact hv
  | g :: r, S, t, R, q, h, acc, hn, hq, hv, hf => by
    unfold namedL at hn
    split at hn
    · rename_i hg
      unfold gOk at hg
      simp only [Bool.and_eq_true, decide_eq_true_eq, List.all_eq_true] at hg
      obtain ⟨_, hfit, hx, hent⟩ := hg
      have hq2 := hq.step hl hfit
      have hff : ∀ (gs : List Gt) (q : (Int → Option Int) × Mq) (S : List Int) (t : Nat) (R : List Int), namedL S t gs = some R → NetOk b.length q → q.2.2 = true → (gs.foldl (gStepN b.length) q).2.2 = true := by
        intro gs
        induction gs with
        | nil => exact fun q _ _ _ _ _ h => h
        | cons y z ih =>
          intro q S t R hn hq hfu
          unfold namedL at hn
          split at hn
          · rename_i hgy
            unfold gOk at hgy
            simp only [Bool.and_eq_true, decide_eq_true_eq, List.all_eq_true] at hgy
            exact ih _ _ _ _ hn (hq.step hl hgy.2.1) ((hq.gate hl hgy.2.1).full hfu)
          · cases hn
      rw [List.foldl_cons] at hf ⊢
      have hf2 : (gStepN b.length q g).2.2 = false := by
        cases e : (gStepN b.length q g).2.2 with
        | false => rfl
        | true => rw [hff r _ _ _ _ hn hq2 e] at hf; cases hf
      have hm := hq.gate hl hfit
      have hs := full_back hm hf2
      have hgv := gateMk_val hb hl hq hv hfit hx hf2 hs
      rw [List.foldl_cons]
      refine netFold_val hb hl r _ _ R _ _ _ hn hq2 ?_ hf
      intro v hvm
      show 1 ≤ v ∧ edgeV (runN b (gateMk b.length q.2 g.2.1 (g.2.2.map (edgeOfA q.1))).2.1) ((updM q.1 g.1 (gateMk b.length q.2 g.2.1 (g.2.2.map (edgeOfA q.1))).1 v).getD 0) = updB h g.1 (gateV h g.2.1 g.2.2) v
      unfold updM updB
      by_cases c : v = g.1
      · rw [if_pos c, if_pos c]
        refine ⟨?_, hgv⟩
        unfold entB at hent
        have := of_decide_eq_true hent
        omega
      · rw [if_neg c, if_neg c]
        have hvS : v ∈ S := by
          rcases List.mem_append.1 hvm with h | h
          · exact h
          · exact absurd (List.mem_singleton.1 h) c
        obtain ⟨h1, h2⟩ := hv v hvS
        refine ⟨h1, ?_⟩
        rw [← h2]
        refine made_keeps hm ?_
        cases e : q.1 v with
        | none => exact isE_true.2 ⟨by simp, by simp; omega⟩
        | some y => exact hq.fe v y e
    · cases hn
theorem inFold_at {I : List Int} : ∀ (l : List Int) (f : Int → Option Int) (v : Int), l.foldl (fun f v => updM f v (2 * placeA I v)) f v = if v ∈ l then some (2 * placeA I v) else f v
  | [], f, v => by simp
  | x :: r, f, v => by
    rw [List.foldl_cons, inFold_at r]
    by_cases c : v ∈ r
    · rw [if_pos c, if_pos (List.mem_cons_of_mem _ c)]
    · rw [if_neg c]
      unfold updM
      by_cases e : v = x
      · rw [if_pos e, if_pos (by rw [e]; exact List.mem_cons_self), e]
      · rw [if_neg e, if_neg (by simp [e, c])]
/-- The value of a net is that of its edge. -/
theorem net_val {P : List Blk} {gs : List Gt} {o : Int} (h : mayN P gs o = true) (hf : (netQ (netI P) gs).2.2 = false) (a : List Int) :
    edgeV (runN (baseV (netI P) (setA (fun _ => false) a)) (netQ (netI P) gs).2.1) (edgeOfA (netQ (netI P) gs).1 o) = litV (runA gs a).1 o := by
  have hp := mayN_pre h
  have hnums := mayP_nums hp
  have hlt := netI_lt hp
  have hl : (netI P).length ≤ 1024 := by rw [netI_len]; exact hnums.2.2
  obtain ⟨R, hn, ho⟩ : ∃ R, namedL (flatB P) 0 gs = some R ∧ varC o ∈ R := by
    unfold mayN namedN at h
    rw [if_pos hp] at h
    cases e : namedL (flatB P) 0 gs with
    | none => rw [e] at h; cases h
    | some R => rw [e] at h; exact ⟨R, rfl, of_decide_eq_true h⟩
  have hb := baseV_len (netI P) (setA (fun _ => false) a)
  have hq0 : NetOk (baseV (netI P) (setA (fun _ => false) a)).length (inFold (netI P) (netI P), ([], false)) := ⟨by rw [hb]; simpa using inFold_edges (netI P) (netI P), ⟨rfl, by rw [hb]; simp; omega⟩⟩
  have hv0 : NetVal (baseV (netI P) (setA (fun _ => false) a)) (flatB P) (inFold (netI P) (netI P), ([], false)) (setA (fun _ => false) a) := by
    intro v hv
    refine ⟨(hnums.2.1 v hv).1, ?_⟩
    have hvI : v ∈ netI P := ascI_mem.2 hv
    show edgeV (runN _ []) ((inFold (netI P) (netI P) v).getD 0) = _
    unfold inFold
    rw [inFold_at, if_pos hvI]
    obtain ⟨j, hj, rfl⟩ := List.mem_iff_getElem.1 hvI
    have hg : (netI P).getD j 0 = (netI P)[j] := by simp [List.getD, hj]
    rw [← hg, placeA_at hlt hj, Option.getD_some, show (2 * ((j : Int) + 1)) = 2 * ((1 + j : Nat) : Int) from by omega, edgeV_even]
    show (baseV _ _).getD (1 + j) false = _
    rw [baseV_at hj]
  have hfo := netFold_val (baseV_zero _ _) (by rw [hb]; omega) gs (flatB P) 0 R _ _ [] hn hq0 hv0 (by rw [hb]; exact hf)
  rw [hb] at hfo
  have hok := netQ_ok (I := netI P) (by omega) gs (mayN_fits h)
  exact edgeOf_val hfo (by rw [hb]; exact hok.fe) ho
end Go.Proofs.YtfghjfljomcldaaGreat

/- skolemref06.Same, aig.Same. -/
namespace Go.Proofs.YtfghjfljomcldaaGreat
open Go.RowKit Go.Maps
set_option linter.unusedVariables false
set_option linter.unusedSimpArgs false
attribute [local go_sem] equal_pr guard_pr drew_cellq drew_frozenq

/-- Are two graphs equal? -/
def sameA (I : List Int) (A : List Pr) (J : List Int) (C : List Pr) : Bool := sameB I J && decide (A = C)
theorem two_boxes (w : World) (a b c d : Value) : Below w.heap.size w ((w.alloc (.cells #[a, b] 25)).alloc (.cells #[c, d] 25)) ∧
    (((w.alloc (.cells #[a, b] 25)).alloc (.cells #[c, d] 25)).cell? ⟨w.heap.size, 0, none⟩ = some a ∧ ((w.alloc (.cells #[a, b] 25)).alloc (.cells #[c, d] 25)).cell? ⟨w.heap.size, 1, none⟩ = some b) ∧
    (((w.alloc (.cells #[a, b] 25)).alloc (.cells #[c, d] 25)).cell? ⟨w.heap.size + 1, 0, none⟩ = some c ∧ ((w.alloc (.cells #[a, b] 25)).alloc (.cells #[c, d] 25)).cell? ⟨w.heap.size + 1, 1, none⟩ = some d) := by
  have hb1 := below_alloc1 w (.cells #[a, b] 25)
  have hb2 := below_alloc1 (w.alloc (.cells #[a, b] 25)) (.cells #[c, d] 25)
  refine ⟨hb1.trans (hb2.mono hb1.size), ⟨cell_old (cell_fresh rfl), cell_old (cell_fresh rfl)⟩, cell_fresh2 rfl, cell_fresh2 rfl⟩
theorem pairs_ne {A C : List Pr} {k : Nat} (h : A.getD k dPr ≠ C.getD k dPr) : A ≠ C := fun e => h (by rw [e])
theorem pairs_eq {A C : List Pr} (hl : A.length = C.length) (h : ∀ j, j < A.length → A.getD j dPr = C.getD j dPr) : A = C := by
  refine List.ext_getElem hl (fun i h1 h2 => ?_)
  have := h i h1
  simpa [List.getD, h1, h2] using this
set_option maxRecDepth 100000 in
set_option maxHeartbeats 3200000 in
theorem rsame6_any (vi va vj vc : Value) (I : List Int) (A : List Pr) (J : List Int) (C : List Pr) (w : World) (HI : IsInts w vi I) (HA : IsPairs w va A) (HJ : IsInts w vj J) (HC : IsPairs w vc C) :
    Calls Tryz.prog 25 #[.agg #[vi, va], .agg #[vj, vc]] w fun r w' => r = .returned (.bool (sameA I A J C)) ∧ Below w.heap.size w w' := by
  obtain ⟨hb0, ⟨p0, p1⟩, q0, q1⟩ := two_boxes w vi va vj vc
  have HI1 := Lib.hid (HI.below hb0 (Nat.le_refl _))
  have HA1 := Lib.hid (HA.below hb0 (Nat.le_refl _))
  have HJ1 := Lib.hid (HJ.below hb0 (Nat.le_refl _))
  have HC1 := Lib.hid (HC.below hb0 (Nat.le_refl _))
  obtain ⟨ia, ic, rfl⟩ := HI.shape
  obtain ⟨aa, ac, rfl, hla⟩ := HA.shape
  obtain ⟨ja, jc, rfl⟩ := HJ.shape
  obtain ⟨ca, cc, rfl, hlc⟩ := HC.shape
  clear HI HA HJ HC
  go_enter Tryz.func25, Tryz.ntmps25
  go_upto_region 1 with fail
  generalize World.alloc (World.alloc w _) _ = W at *
  have HB0 := Lib.hid hb0
  have HIN := Lib.hid (ints5_any _ _ I J W HI1.out HJ1.out)
  have HE : Hid (sameA I A J C = (sameB I J && decide (A = C))) := rfl
  clear hb0
  cases hi : sameB I J with
  | false =>
    rw [hi] at HIN HE
    go_wp2_with (go_at_call 26; go_loud (refine HIN.out.mono ?_; rintro e w1 ⟨rfl, hq⟩; have HQ := Lib.hid hq; clear hq))
    go_ret
    exact ⟨ret_bool (by rw [HE.out]; rfl), HB0.out.trans (HQ.out.below _)⟩
  | true =>
    rw [hi] at HIN HE
    rw [Bool.true_and] at HE
    clear hi
    by_cases hl : A.length = C.length
    · have HL := Lib.hid hl
      have hne : ((A.length : Int) != (C.length : Int)) = false := by simp [hl]
      clear hl
      go_upto_region 3 with (go_at_call 26; go_loud (refine HIN.out.mono ?_; rintro e w1 ⟨rfl, hq⟩; have HQ := Lib.hid hq; have hbq := hq.below W.heap.size; have p0' := (hq.cell _).trans p0; have p1' := (hq.cell _).trans p1; have q1' := (hq.cell _).trans q1; clear hq))
      clear p0 p1 q0 q1 p0' hbq
      go_wp2
      go_loopw [5] (fun s5 wr => ∃ k : Nat, k ≤ A.length ∧ s5 = .int .i64 k ∧ Quiet w1 wr ∧ Hid (A.take k = C.take k)) (fun s5 _ => A.length - (intOf s5).toNat)
      case atStart => exact ⟨0, Nat.zero_le _, rfl, Quiet.refl _, by show _ = _; simp⟩
      case round =>
        obtain ⟨k, hk, rfl, hq, HN⟩ := hrel
        have HQR := Lib.hid hq
        have r1 := (hq.cell _).trans p1'
        have s1 := (hq.cell _).trans q1'
        by_cases hlt : k < A.length
        · have hlt2 : k < C.length := by rw [← HL.out]; exact hlt
          obtain ⟨b, off, rfl, hb, hx0, hy0⟩ := HA1.out.at hlt
          obtain ⟨b2, off2, rfl, hb2, hx1, hy1⟩ := HC1.out.at hlt2
          have cx := (hq.cell _).trans ((HQ.out.cell _).trans hx0)
          have cy := (hq.cell _).trans ((HQ.out.cell _).trans hy0)
          have dx := (hq.cell _).trans ((HQ.out.cell _).trans hx1)
          have dy := (hq.cell _).trans ((HQ.out.cell _).trans hy1)
          have HT := Lib.hid (take_pr hlt)
          have HU := Lib.hid (take_pr hlt2)
          have HNE : Hid (A.getD k dPr ≠ C.getD k dPr → A ≠ C) := fun h e => h (by rw [e])
          clear hx0 hy0 hx1 hy1 hq
          generalize A.getD k dPr = x at *
          generalize C.getD k dPr = y at *
          obtain ⟨x1, x2⟩ := x
          obtain ⟨y1, y2⟩ := y
          simp only at cx cy dx dy
          have hkb : k ≤ 17592186044416 := by omega
          by_cases hxy : x1 = y1 ∧ x2 = y2
          · obtain ⟨rfl, rfl⟩ := hxy
            go_wp2_with fail
            go_quiet (fail)
            have HQ2 := Lib.hid (HQR.out.drewN nq)
            generalize wr.drewN nq = wq at *
            go_wp2_with fail
            go_roundw
            case rel => exact ⟨k + 1, by omega, by go_num, HQ2.out, by show _ = _; rw [HT.out, HU.out, HN.out]⟩
            case measure => simp [intOf]; omega
          · have hd : (x1 == y1 && x2 == y2) = false := by
              rw [Bool.and_eq_false_iff]
              by_cases e : x1 = y1
              · exact .inr (by simpa using fun e2 => hxy ⟨e, e2⟩)
              · exact .inl (by simpa using e)
            have HF : Hid (sameA I A J C = false) := by
              show _ = _
              rw [HE.out, decide_eq_false_iff_not]
              exact HNE.out (fun e => by injection e with e1 e2; exact hxy ⟨e1, e2⟩)
            go_wp2_with fail
            go_quiet (fail)
            have HQ2 := Lib.hid (HQR.out.drewN nq)
            generalize wr.drewN nq = wq at *
            go_wp2_with fail
            go_ret
            exact ⟨ret_bool HF.out.symm, HB0.out.trans ((HQ.out.trans HQ2.out).below _)⟩
        · have HF : Hid (sameA I A J C = true) := by
            show _ = _
            rw [HE.out, decide_eq_true_eq]
            have h := HN.out
            rw [List.take_of_length_le (by omega), List.take_of_length_le (by have := HL.out; omega)] at h
            exact h
          clear hq
          go_wp2
          go_ret
          exact ⟨ret_bool HF.out.symm, HB0.out.trans ((HQ.out.trans HQR.out).below _)⟩
    · have hne : ((A.length : Int) != (C.length : Int)) = true := by simp; omega
      have HE2 : Hid (sameA I A J C = false) := by show _ = _; rw [HE.out]; exact decide_eq_false (fun e => hl (by rw [e]))
      clear hl
      go_wp2_with (go_at_call 26; go_loud (refine HIN.out.mono ?_; rintro e w1 ⟨rfl, hq⟩; have HQ := Lib.hid hq; have p1' := (hq.cell _).trans p1; have q1' := (hq.cell _).trans q1; clear hq))
      go_ret
      exact ⟨ret_bool HE2.out.symm, HB0.out.trans (HQ.out.below _)⟩
set_option maxRecDepth 100000 in
set_option maxHeartbeats 1600000 in
theorem gsame_any (vi va vj vc : Value) (I : List Int) (A : List Pr) (J : List Int) (C : List Pr) (w : World) (HI : IsInts w vi I) (HA : IsPairs w va A) (HJ : IsInts w vj J) (HC : IsPairs w vc C) :
    Calls Tryz.prog 24 #[.agg #[vi, va], .agg #[vj, vc]] w fun r w' => r = .returned (.bool (sameA I A J C)) ∧ Below w.heap.size w w' := by
  obtain ⟨hb0, ⟨p0, p1⟩, q0, q1⟩ := two_boxes w vi va vj vc
  have HI1 := Lib.hid (HI.below hb0 (Nat.le_refl _))
  have HA1 := Lib.hid (HA.below hb0 (Nat.le_refl _))
  have HJ1 := Lib.hid (HJ.below hb0 (Nat.le_refl _))
  have HC1 := Lib.hid (HC.below hb0 (Nat.le_refl _))
  obtain ⟨ia, ic, rfl⟩ := HI.shape
  obtain ⟨aa, ac, rfl, _⟩ := HA.shape
  obtain ⟨ja, jc, rfl⟩ := HJ.shape
  obtain ⟨ca, cc, rfl, _⟩ := HC.shape
  clear HI HA HJ HC
  go_enter Tryz.func24, Tryz.ntmps24
  go_upto_region 1 with fail
  generalize World.alloc (World.alloc w _) _ = W at *
  have HB0 := Lib.hid hb0
  have HIN := Lib.hid (equal_any _ _ I J W HI1.out HJ1.out)
  have HPE := Lib.hid (fun X (hq : Quiet W X) => equalp_any _ _ A C X (HA1.out.below (hq.below _) (Nat.le_refl _)) (HC1.out.below (hq.below _) (Nat.le_refl _)))
  have HE : Hid (sameA I A J C = (sameB I J && decide (A = C))) := rfl
  clear hb0
  generalize decide (A = C) = d at *
  cases hi : sameB I J with
  | false =>
    rw [hi] at HIN HE
    go_wp2_with (go_at_call 74; go_loud (refine HIN.out.mono ?_; rintro e w1 ⟨rfl, hq⟩; have HQ := Lib.hid hq; clear hq))
    go_ret
    exact ⟨ret_bool (by rw [HE.out]; rfl), HB0.out.trans (HQ.out.below _)⟩
  | true =>
    rw [hi] at HIN HE
    rw [Bool.true_and] at HE
    clear hi
    go_wp2_with (first
      | (go_at_call 75; go_loud (refine (HPE.out w1 HQ.out).mono ?_; rintro e w2 ⟨rfl, hq⟩; have HQ2 := Lib.hid (HQ.out.trans hq); clear hq))
      | (go_at_call 74; go_loud (refine HIN.out.mono ?_; rintro e w1 ⟨rfl, hq⟩; have HQ := Lib.hid hq; have p1' := (hq.cell _).trans p1; have q1' := (hq.cell _).trans q1; clear hq)))
    go_ret
    exact ⟨ret_bool HE.out.symm, HB0.out.trans (HQ2.out.below _)⟩
end Go.Proofs.YtfghjfljomcldaaGreat
