/- prefix.Linear, for 1 to 19 rows. -/
import Derived.Test.YtmiijgjpkkmoaaaGreatMpJ
import Derived.Test.YtmiijgjpkkmoaaaGreatPxClose
import Derived.Test.YtmiijgjpkkmoaaaGreatPxWithout
import Derived.Test.YtmiijgjpkkmoaaaGreatMpE
namespace Go.Proofs.YtmiijgjpkkmoaaaGreat
open Go.RowKit Go.Shelf Go.Sort Go.Lib
set_option linter.unusedVariables false
set_option linter.unusedSimpArgs false

theorem ltD_iff (x y : DepV) : ltOf cfD x y = true ↔ x.l.length < y.l.length := by
  show decide (cmpN (x.l.length : Int) (y.l.length : Int) < 0) = true ↔ _
  unfold cmpN
  by_cases h1 : x.l.length < y.l.length
  · rw [if_pos (by omega)]; simp [h1]
  · rw [if_neg (by omega)]
    split <;> simp [h1]
theorem ltD_no (x y : DepV) : ltOf cfD x y = false ↔ y.l.length ≤ x.l.length := by
  rw [← Bool.not_eq_true, ltD_iff]
  omega
theorem swoD : SWO (ltOf cfD) := ⟨fun x => (ltD_no x x).2 (Nat.le_refl _), fun x y z h k => (ltD_iff x z).2 (Nat.lt_trans ((ltD_iff x y).1 h) ((ltD_iff y z).1 k)), fun x y z h k => (ltD_no x z).2 (Nat.le_trans ((ltD_no y z).1 k) ((ltD_no x y).1 h))⟩
theorem below_sortK {B g m : Nat} {w : World} {d : Array DepV} {os : Array Obj} (hg : B ≤ g) (hB : B ≤ w.heap.size) : Below B w (sortWorldK encD 2 w g 0 m d os) := by
  have h1 : Below B w (putRow id (Sort.ahead w m) g 0 (flatK encD 2 d)) := below_putRow (Below.refl _ _) hg
  refine h1.trans ⟨rfl, rfl, rfl, by simp [sortWorldK, putRowK, grow], fun k hk => ?_⟩
  show ((putRow id (Sort.ahead w m) g 0 (flatK encD 2 d)).heap ++ os)[k]? = _
  rw [Array.getElem?_append_left (by have := h1.size; omega)]
theorem partL_len : ∀ (l m : List Int), partL l m = true → l.length ≤ m.length
  | [], m, _ => Nat.zero_le _
  | x :: r, m, h => by
    unfold partL at h
    split at h
    · cases h
    · rename_i y s hd
      rw [Bool.and_eq_true] at h
      have h1 := partL_len r s h.2
      have h2 : (m.dropWhile (fun y => decide (y < x))).length ≤ m.length := List.Sublist.length_le (List.dropWhile_sublist _)
      rw [hd] at h2
      simp only [List.length_cons] at h2 ⊢
      omega
def byLen (s : List DepV) : List DepV := (Sort.insertionSort (ltOf cfD) s.toArray 0 s.length).toList
theorem byLen_perm (s : List DepV) : (byLen s).Perm s := by
  have h := (insertionSort_holds (lt := ltOf cfD) swoD s.toArray 0 s.length (Nat.zero_le _) (by simp)).1
  have h2 := h.2.2
  have hs : (Sort.insertionSort (ltOf cfD) s.toArray 0 s.length).size = s.length := by rw [h.1]; simp
  unfold byLen
  have h3 : (Sort.insertionSort (ltOf cfD) s.toArray 0 s.length).extract 0 s.length = Sort.insertionSort (ltOf cfD) s.toArray 0 s.length := by
    conv => lhs; arg 3; rw [← hs]
    simp
  rw [h3] at h2
  simpa using h2
theorem byLen_len (s : List DepV) : (byLen s).length = s.length := (byLen_perm s).length_eq
theorem sortdeps_any (B g cap : Nat) (s : List DepV) (w : World) (hH : HoldsK encD 2 w g 0 s.toArray) (hg : g < w.heap.size) (hB : B ≤ g) (hn : s.length < 20) :
    Calls Tryz.prog 41 #[.slice (some ⟨g, 0, none⟩) s.length cap, .func (.func 42) #[] #[]] w fun e w' =>
      e = .returned (.tuple #[]) ∧ HoldsK encD 2 w' g 0 (byLen s).toArray ∧ Below B w w' ∧ g < w'.heap.size := by
  have h := stable0_any g cap s.toArray w hH hg (by simpa using hn)
  simp only [List.size_toArray] at h
  refine h.mono ?_
  rintro e w' ⟨rfl, n, os, rfl⟩
  have hsz : (Sort.insertionSort (ltOf cfD) s.toArray 0 s.length).size = s.toArray.size := (insertionSort_holds (lt := ltOf cfD) swoD s.toArray 0 s.length (Nat.zero_le _) (by simp)).1.1
  have hbe : Below B w (sortWorldK encD 2 w g 0 n (Sort.insertionSort (ltOf cfD) s.toArray 0 s.length) os) := below_sortK hB (by omega)
  refine ⟨rfl, ?_, hbe, Nat.lt_of_lt_of_le hg hbe.size⟩
  unfold byLen
  rw [Array.toArray_toList]
  exact holdsK_sortWorldK_c encD 2 w g 0 s.toArray _ n os hH hg hsz

def befL (r : List (Int × List Int)) (k : Nat) : List Int := if k = 0 then [] else (r.getD (k - 1) dD).2
def linP (r : List (Int × List Int)) : Nat → List Blk
  | 0 => []
  | k + 1 => linP r k ++ [(false, withoutI (r.getD k dD).2 (befL r k)), (true, [(r.getD k dD).1])]
def chainB (r : List (Int × List Int)) : Bool := decide (∀ k, k < r.length → partL (befL r k) (r.getD k dD).2 = true)
def linR (r : List (Int × List Int)) (U : List Int) : List Blk × Int := if chainB r = true then joinA (linP r r.length ++ [(false, withoutI U (befL r r.length))]) else ([], 30)
theorem chain_no {r : List (Int × List Int)} {k : Nat} (hk : k < r.length) (h : partL (befL r k) (r.getD k dD).2 = false) : chainB r = false := by
  unfold chainB
  rw [decide_eq_false_iff_not]
  intro h2
  rw [h2 k hk] at h
  cases h
/-- What the rows of a valid Dqbf are like. -/
structure RowsOk (r : List (Int × List Int)) (U : List Int) : Prop where
  len : r.length ≤ 1024
  rise : ∀ x ∈ r, x.2.Pairwise (· < ·) ∧ x.2.length ≤ 1024
  small : ∀ x ∈ r, 1 ≤ x.1 ∧ x.1 ≤ 65536
  univ : U.length ≤ 1024
theorem rows_ok {U : List Int} {E : List (Int × List Int)} (h : okD U E) : RowsOk E U := by
  obtain ⟨hU, hE, hnd, h16, hlen⟩ := h
  have hp : U.Pairwise (· < ·) := rise_pair hU
  have hl : U.length + E.length ≤ 1024 := by
    rw [List.length_append, exOf_len] at hlen
    exact hlen
  have hmem : ∀ x ∈ E, ∃ j, j < E.length ∧ E.getD j dD = x := fun x hx => by
    obtain ⟨j, hj, rfl⟩ := List.getElem_of_mem hx
    exact ⟨j, hj, by simp [List.getD, hj]⟩
  refine ⟨by omega, fun x hx => ?_, fun x hx => ?_, by omega⟩
  · obtain ⟨j, hj, rfl⟩ := hmem x hx
    have h1 := (partL_iff _ _ hp).1 (hE j hj).2
    refine ⟨h1.1, ?_⟩
    have h2 : ((E.getD j dD).2).length ≤ U.length := partL_len _ _ (hE j hj).2
    omega
  · have : x.1 ∈ U ++ exOf E := List.mem_append_right _ (List.mem_map.2 ⟨x, hx, rfl⟩)
    exact h16 _ this

theorem step_appBs {ops : Array Oper} {o : Oper} {a : Act} {w : World} {K : Act → World → Prop} {Q : Exit → Act → World → Prop} {E : Prop} (d : Option Tmp) (hd : o.dst = d) (hgd : o.guard = none) (sp x : Operand)
    (ho : o.op = .call { callee := .builtin .append, args := #[sp, x], argTypes := #[22, 22] }) (B : Nat) (v : Value) (t s : List Trp) (g cap : Nat)
    (hs : a.eval sp = v) (hx : a.eval x = .slice (some ⟨g, 0, none⟩) s.length cap) (hrow : w.ownsRow B 53 2 v t.length (cellsT t)) (hc : ∀ j y, (cellsT s)[j]? = some y → w.cell? (Addr.add ⟨g, 0, none⟩ j) = some y) (h1 : ∀ u ∈ cellsT s, u.oneCell' = true) (hlen : t.length + s.length ≤ 1000000) (hB : B ≤ w.heap.size)
    (h : ∀ v' w', w'.ownsRow B 53 2 v' (t ++ s).length (cellsT (t ++ s)) → w.grownBy w' v.ownBlock → K (a.put d v') w') :
    if Region.wanted o (yielded ops a.tmps) = true then Oper.wp Tryz.prog o a w K Q else E := by
  subst hd
  have hw : Region.wanted o (yielded ops a.tmps) = true := by simp [Region.wanted, hgd]
  rw [if_pos hw]
  obtain ⟨i0, hi, hz0, hz1, hz2⟩ := info_parts info_blk
  obtain ⟨v', w', hr, h2, h3, h4, h5⟩ := run_append_own_at (P := Tryz.prog) w B 22 o.type 53 i0 (.agg #[.bool false, .slice none 0 0]) 2 32 Tryz.underlying22 hi hz0 hz1 hz2 rfl (by decide) v t.length _ hrow ⟨g, 0, none⟩ s.length cap (cellsT s) (cellsT_len s) hc h1 (by unfold maxLen; omega) (by omega) hB
  unfold Oper.wp execOp
  simp only [ho, resolve, invoke, builtin, Sem.run_bind, Sem.run_pure, Result.andThen_ok, List.map_toArray, List.map_cons, List.map_nil, hs, hx, hr]
  refine h v' w' ?_ h3
  rw [List.length_append, cellsT_app]
  exact h2
theorem cut3 {P : Program} {md : Region.Mode} {ops : Array Oper} {Q : Exit → Act → World → Prop} {S : World → Prop} {G : Option Addr → Nat → Nat → World → Prop} {fu : Nat} {li : Array Bool} {f : Option Addr → Nat → Nat → Act} {R : Prop}
    (main : (∀ u c h wx, G u c h wx → wpAnyH P md ops Q S fu li (f u c h) wx) → R) (tail : ∀ u c h wx, G u c h wx → wpAnyH P md ops Q S fu li (f u c h) wx) : R := main tail

theorem IsInts.i64X {w : World} {v : Value} {l : List Int} (h : IsInts w v l) : In64 l := by
  obtain ⟨_, _, _, _, _, _, h64, _⟩ := h
  exact h64
theorem without_len (a b : List Int) : (withoutI a b).length ≤ a.length := List.length_filter_le _ _
theorem without_64 {a : List Int} (b : List Int) (h : In64 a) : In64 (withoutI a b) := fun x hx => h x (List.mem_filter.1 hx).1
theorem linP_flat {r : List (Int × List Int)} (h : ∀ x ∈ r, x.2.length ≤ 1024) : ∀ k, k ≤ r.length → (flatB (linP r k)).length ≤ k * 1025
  | 0, _ => Nat.zero_le _
  | k + 1, hk => by
    have ih := linP_flat h k (by omega)
    have h1 := h (r.getD k dD) (by have : k < r.length := hk; simp [List.getD, this])
    have h2 := without_len (r.getD k dD).2 (befL r k)
    show (flatB (linP r k ++ _)).length ≤ _
    rw [flatB_app, List.length_append]
    have h3 : (flatB [(false, withoutI (r.getD k dD).2 (befL r k)), (true, [(r.getD k dD).1])]).length = (withoutI (r.getD k dD).2 (befL r k)).length + 1 := by
      unfold flatB
      simp only [List.map_cons, List.map_nil, List.flatten_cons, List.flatten_nil, List.length_append, List.length_cons, List.length_nil]
    rw [h3]
    omega
theorem linP_64 {r : List (Int × List Int)} (h : ∀ x ∈ r, In64 x.2 ∧ x.2.length ≤ 1024 ∧ 1 ≤ x.1 ∧ x.1 ≤ 65536) : ∀ k, k ≤ r.length → ∀ b ∈ linP r k, b.2.length ≤ 17592186044416 ∧ In64 b.2
  | 0, _ => fun b hb => by cases hb
  | k + 1, hk => fun b hb => by
    have h1 := h (r.getD k dD) (by have : k < r.length := hk; simp [List.getD, this])
    have h2 := without_len (r.getD k dD).2 (befL r k)
    rcases List.mem_append.1 hb with hb | hb
    · exact linP_64 h k (by omega) b hb
    · simp only [List.mem_cons, List.not_mem_nil, or_false] at hb
      rcases hb with rfl | rfl
      · exact ⟨by simp only; omega, without_64 _ h1.1⟩
      · refine ⟨by simp, fun x hx => ?_⟩
        rw [List.mem_singleton] at hx
        subst hx
        omega
theorem lin_last {W wr w5 w8 : World} {v8 u : Value} {oa : Option Addr} {oc : Nat} {t : List Trp} {LP : List Blk} {LU : List Int} (h : RowB W wr W.heap.size (.slice oa t.length oc) t) (hsz : W.heap.size ≤ wr.heap.size) (hb : Below wr.heap.size wr w5) (ho : Own w5 wr.heap.size u LU) (hsh : shapeT t = LP)
    (hel : ∀ b ∈ LP ++ [(false, LU)], b.2.length ≤ 17592186044416 ∧ In64 b.2) (htl : t.length + 1 ≤ 1000000) (hrow : w8.ownsRow W.heap.size 53 2 v8 (t ++ [(false, u, LU)]).length (cellsT (t ++ [(false, u, LU)])))
    (hg : (w5.alloc (.cells #[.bool false, u] 53)).grownBy w8 (Value.slice oa t.length oc).ownBlock) : IsBlocks w8 v8 (LP ++ [(false, LU)]) ∧ Below W.heap.size W w8 := by
  have h1 := RowB.more h hsz (hb.alloc hb.size (.cells #[.bool false, u] 53)) (fun x hx => by
    rw [List.mem_singleton] at hx
    subst hx
    exact .inl ((ho.alloc _).mono hsz)) hrow hg
  have hs2 : shapeT (t ++ [(false, u, LU)]) = LP ++ [(false, LU)] := by rw [shapeT_app, hsh]; rfl
  refine ⟨?_, h1.below⟩
  rw [← hs2]
  refine h1.blocks (by simp; omega) (fun x hx => ?_)
  have : (x.1, x.2.2) ∈ LP ++ [(false, LU)] := by rw [← hs2]; exact List.mem_map.2 ⟨x, hx, rfl⟩
  exact hel _ this
def LinPost (w : World) (U : List Int) (E : List (Int × List Int)) (e : Ending) (w' : World) : Prop :=
  ∃ s : List DepV, s.map (fun x => (x.v, x.l)) = E ∧ ∃ v t, e = .returned (.tuple #[v, .int .i64 (linR ((byLen s).map (fun x => (x.v, x.l))) U).2]) ∧ JoinSt w' w.heap.size v t ∧ shapeT t = (linR ((byLen s).map (fun x => (x.v, x.l))) U).1 ∧ Below w.heap.size w w'
theorem deps_cap {w : World} {a : Option Addr} {n cap : Nat} {p : List (Int × List Int)} (H : IsDeps w (.slice a n cap) p) (h0 : 0 < p.length) : ∃ ad, a = some ad := by
  obtain ⟨a', cap', e, hcp, hc2, hl, b, off, ha, _⟩ := H
  injection e with e1 e2 e3
  subst e1
  exact ⟨_, (ha (fun h => by rw [h] at h0; simp at h0)).1⟩
theorem holdsD_at {w : World} {g : Nat} {r : List DepV} (H : HoldsK encD 2 w g 0 r.toArray) {k : Nat} (hk : k < r.length) : w.cell? ⟨g, k * 2, none⟩ = some (.int .i64 (r.getD k default).v) ∧ w.cell? ⟨g, k * 2 + 1, none⟩ = some (.slice (r.getD k default).a (r.getD k default).l.length (r.getD k default).c) := by
  have key : ∀ j, j < r.length * 2 → w.cell? ⟨g, j, none⟩ = some ((encD (r.getD (j / 2) default))[j % 2]!) := fun j hj => by
    have h1 := (H j (by rw [size_flatK]; simpa using hj)).1
    rw [get_flatK encD 2 r.toArray j (by simpa using hj), Nat.zero_add] at h1
    have h5 : (r.toArray)[j / 2]! = r.getD (j / 2) default := by
      have : j / 2 < r.length := by omega
      simp [this, List.getD]
    rw [h5] at h1
    exact h1
  have h1 := key (k * 2) (by omega)
  have h2 := key (k * 2 + 1) (by omega)
  rw [show k * 2 / 2 = k by omega, show k * 2 % 2 = 0 by omega] at h1
  rw [show (k * 2 + 1) / 2 = k by omega, show (k * 2 + 1) % 2 = 1 by omega] at h2
  exact ⟨h1, h2⟩

def Sx (W : World) (nb : Nat) (c0 c1 : Value) (X : World) : Prop := Below W.heap.size W X ∧ X.heap[nb]? = some (.cells #[c0, c1] 51 (0, 0))
theorem Sx.cells {W : World} {nb : Nat} {c0 c1 : Value} {X : World} (h : Sx W nb c0 c1 X) : X.cell? ⟨nb, 0, none⟩ = some c0 ∧ X.cell? ⟨nb, 1, none⟩ = some c1 := by
  refine ⟨?_, ?_⟩ <;> simp [World.cell?, h.2]
theorem Sx.below {W : World} {nb : Nat} {c0 c1 : Value} {X Y : World} (h : Sx W nb c0 c1 X) (hb : Below X.heap.size X Y) (hn : nb < X.heap.size) : Sx W nb c0 c1 Y := ⟨h.1.trans (hb.mono h.1.size), (hb.block _ hn).trans h.2⟩
theorem Sx.alloc {W : World} {nb : Nat} {c0 c1 : Value} {X : World} (h : Sx W nb c0 c1 X) (hn : nb < X.heap.size) (o : Obj) : Sx W nb c0 c1 (X.alloc o) := h.below ((Below.refl _ _).alloc (Nat.le_refl _) o) hn
theorem Own.shapeA {w : World} {B : Nat} {v : Value} {xs : List Int} (h : Own w B v xs) : ∃ a cap, v = .slice a xs.length cap := by
  rcases h.2 with ⟨rfl, h2⟩ | ⟨g, cap, cur, rfl, _⟩
  · exact ⟨none, 0, by rw [h2]⟩
  · exact ⟨_, _, rfl⟩
theorem befL_le {r : List (Int × List Int)} {k : Nat} (h : ∀ x ∈ r, x.2.Pairwise (· < ·)) (hk : k ≤ r.length) : (befL r k).Pairwise (· ≤ ·) := by
  unfold befL
  split
  · exact List.Pairwise.nil
  · have hk2 : k - 1 < r.length := by omega
    exact (h _ (by simp [List.getD, hk2])).imp (fun h => Int.le_of_lt h)
theorem own_one {w : World} {B h : Nat} {v : Int} (hh : w.heap[h]? = some (.cells #[.int .i64 v] 3 (0, 0))) (hB : B ≤ h) : Own w B (.slice (some ⟨h, 0, none⟩) 1 1) [v] :=
  ⟨rfl, .inr ⟨h, 1, _, rfl, hB, hh, Nat.le_refl _, by unfold maxLen; omega, rfl, rfl⟩⟩
theorem cell_add {w : World} {cs : Array Value} {T : TypeId} {j : Nat} {y : Value} (h : cs.toList[j]? = some y) : (w.alloc (.cells cs T)).cell? (Addr.add ⟨w.heap.size, 0, none⟩ j) = some y := by
  rw [Array.getElem?_toList] at h
  unfold Addr.add
  split
  · rename_i h0
    subst h0
    exact cell_fresh h
  · rw [Nat.zero_add]
    exact cell_fresh h
theorem linP_len (r : List (Int × List Int)) : ∀ k, (linP r k).length = 2 * k
  | 0 => rfl
  | k + 1 => by
    show (linP r k ++ _).length = _
    rw [List.length_append, linP_len r k]
    simp
    omega

set_option maxRecDepth 100000 in
set_option maxHeartbeats 3200000 in
theorem linear_any (vu ve vc : Value) (U : List Int) (E : List (Int × List Int)) (C : List (List Int)) (w : World) (HU : IsInts w vu U) (HE : IsDeps w ve E) (HC : IsRows w vc C) (h64e : In64 (exOf E)) (h0 : 0 < E.length) (hn : E.length < 20) (hm : mayDB U E C = true) :
    Calls Tryz.prog 10 #[.agg #[vu, ve, vc]] w (LinPost w U E) := by
  have hok := rows_ok (mayD_ok.1 hm).1
  have hb0 : Below w.heap.size w (w.alloc (.cells #[vu, ve, vc] 29)) := (Below.refl w.heap.size w).alloc (Nat.le_refl _) _
  have hM := pmayd_any vu ve vc U E C (w.alloc (.cells #[vu, ve, vc] 29)) (HU.below hb0 (Nat.le_refl _)) (HE.below hb0 (Nat.le_refl _)) (HC.below hb0 (Nat.le_refl _)) h64e
  rw [hm] at hM
  obtain ⟨a1, c1, rfl, _⟩ := HU.shape
  obtain ⟨a2, c2, rfl, _⟩ := HE.shape
  obtain ⟨a3, c3, rfl, _⟩ := HC.shape
  obtain ⟨ad, rfl⟩ := deps_cap HE h0
  obtain ⟨s, hs1, _, hs3, hs4, _⟩ := dep_vals HE
  have hsl : s.length = E.length := by rw [← hs1, List.length_map]
  have D : ∀ X, Below (w.heap.size + 1) (w.alloc (.cells #[.slice a1 U.length c1, .slice (some ad) E.length c2, .slice a3 C.length c3] 29)) X → X.cell? ⟨w.heap.size, 0, none⟩ = some (.slice a1 U.length c1) ∧ X.cell? ⟨w.heap.size, 1, none⟩ = some (.slice (some ad) E.length c2) ∧ Below w.heap.size w X := fun X hb =>
    ⟨(hb.cell (p := ⟨w.heap.size, 0, none⟩) (by simp)).trans (cell_fresh rfl), (hb.cell (p := ⟨w.heap.size, 1, none⟩) (by simp)).trans (cell_fresh rfl), hb0.trans (hb.mono (by omega))⟩
  rw [show (w.alloc (.cells #[.slice a1 U.length c1, .slice (some ad) E.length c2, .slice a3 C.length c3] 29)).heap.size = w.heap.size + 1 by simp] at hM
  have HM := Lib.hid hM
  have HD := Lib.hid D
  have HS1 := Lib.hid hs1
  have HS3 := Lib.hid hs3
  have HOK := Lib.hid hok
  have HUI := Lib.hid HU
  have HCL : Hid (∀ X, Below w.heap.size w X → Calls Tryz.prog 40 #[.slice (some ad) E.length c2] X fun e w' => ∃ g cap', e = .returned (.slice (some ⟨g, 0, none⟩) E.length cap') ∧ HoldsK encD 2 w' g 0 s.toArray ∧ X.heap.size ≤ g ∧ g < w'.heap.size ∧ Below X.heap.size X w') := by
    intro X hX
    have := cloned_any ad c2 s X (by omega) (by omega) (fun j u hj => ⟨Nat.lt_of_lt_of_le (hs4 ad rfl j u hj).1 hX.size, (hX.cell (p := ad.add j) (by rw [add_block]; exact (hs4 ad rfl j u hj).1)).trans (hs4 ad rfl j u hj).2⟩)
    rw [hsl] at this
    exact this
  have HSO : Hid (∀ X B g cap, HoldsK encD 2 X g 0 s.toArray → g < X.heap.size → B ≤ g → Calls Tryz.prog 41 #[.slice (some ⟨g, 0, none⟩) E.length cap, .func (.func 42) #[] #[]] X fun e w' =>
      e = .returned (.tuple #[]) ∧ HoldsK encD 2 w' g 0 (byLen s).toArray ∧ Below B X w' ∧ g < w'.heap.size) := by
    intro X B g cap hH hg hB
    have := sortdeps_any B g cap s X hH hg hB (by omega)
    rw [hsl] at this
    exact this
  clear hM D hs1 hs3 hs4 HU HE HC hb0 h64e hm hok
  have HR : Hid (∀ x ∈ byLen s, IsInts w (.slice x.a x.l.length x.c) x.l) := fun x hx => HS3.out x ((byLen_perm s).mem_iff.1 hx)
  obtain ⟨r, hr⟩ : ∃ r, (byLen s).map (fun x => (x.v, x.l)) = r := ⟨_, rfl⟩
  have hrl : r.length = E.length := by rw [← hr, List.length_map, byLen_len, hsl]
  have HRE : Hid (r.Perm E) := by show _; rw [← hr, ← HS1.out]; exact (byLen_perm s).map _
  have HRO : Hid (∀ x ∈ r, (x.2.Pairwise (· < ·) ∧ x.2.length ≤ 1024) ∧ 1 ≤ x.1 ∧ x.1 ≤ 65536) := fun x hx => ⟨HOK.out.rise x (HRE.out.mem_iff.1 hx), HOK.out.small x (HRE.out.mem_iff.1 hx)⟩
  have HAT : Hid (∀ k, k < E.length → ∃ x : DepV, (byLen s).getD k default = x ∧ r.getD k dD = (x.v, x.l) ∧ IsInts w (.slice x.a x.l.length x.c) x.l ∧ (x.v, x.l) ∈ r) := fun k hk => by
    have hk2 : k < (byLen s).length := by rw [byLen_len, hsl]; exact hk
    refine ⟨_, rfl, ?_, HR.out _ (by simp [List.getD, hk2]), ?_⟩
    · rw [← hr]; simp [List.getD, hk2]
    · rw [← hr]; exact List.mem_map.2 ⟨_, by simp [List.getD, hk2], rfl⟩
  have HFIN : Hid (∀ e w', (∃ v t, e = .returned (.tuple #[v, .int .i64 (linR r U).2]) ∧ JoinSt w' w.heap.size v t ∧ shapeT t = (linR r U).1 ∧ Below w.heap.size w w') → LinPost w U E e w') := by
    intro e w' h
    refine ⟨s, HS1.out, ?_⟩
    rw [hr]
    exact h
  have hbl : (byLen s).length = E.length := by rw [byLen_len, hsl]
  have HR64 : Hid (∀ x ∈ r, In64 x.2) := fun x hx => by
    rw [← hr] at hx
    obtain ⟨y, hy, rfl⟩ := List.mem_map.1 hx
    exact (HR.out y hy).i64X
  have HU64 := Lib.hid HUI.out.i64X
  clear hr hsl HR HRE HS3 HS1
  generalize byLen s = bs at *
  go_enter Tryz.func10, Tryz.ntmps10
  go_wp2_with (first
    | (go_at_call 39; refine HM.out.mono ?_; rintro e w1 ⟨rfl, hb1⟩; obtain ⟨d0, d1, hb01⟩ := HD.out w1 hb1)
    | (go_at_call 40; refine (HCL.out w1 hb01).mono ?_; rintro e w2 ⟨g, cg, rfl, hh2, hg2, hg3, hb2⟩; have HH2 := Lib.hid hh2; clear hh2)
    | (go_at_call 41; refine (HSO.out w2 w1.heap.size g cg HH2.out hg3 hg2).mono ?_; rintro e W ⟨rfl, hh3, hb3, hg4⟩; have HH3 := Lib.hid hh3; clear hh3))
  have HBW := Lib.hid (hb01.trans ((hb2.trans hb3).mono hb01.size))
  have HDW := Lib.hid (HD.out W (hb1.trans ((hb2.trans hb3).mono (by have := hb1.size; simpa using this))))
  have hgW : g < W.heap.size := hg4
  have hwW : w.heap.size < W.heap.size := by have h1 := hb1.size; have h2 := hb2.size; have h3 := hb3.size; simp at h1; omega
  clear hb01 hb1 hb2 hb3 HD HM HCL HSO HH2 hg2 hg3 d0 d1
  go_loopw [5, 6, 19] (fun out bef i wr => ∃ (k : Nat) (t : List Trp), k ≤ E.length ∧ i = .int .i64 k ∧ RowB W wr W.heap.size out t ∧ shapeT t = linP r k ∧ IsInts W bef (befL r k) ∧ ∀ j, j < k → partL (befL r j) (r.getD j dD).2 = true) (fun _ _ i _ => E.length - (intOf i).toNat)
  case atStart => exact ⟨0, [], Nat.zero_le _, rfl, RowB.nil (Below.refl _ _) (Nat.le_refl _), rfl, IsInts.nil _, fun j hj => absurd hj (Nat.not_lt_zero _)⟩
  case round =>
    obtain ⟨k, t, hk, rfl, hrow, hsh, hbi, hch⟩ := hrel
    have HRW := Lib.hid hrow
    have HSH := Lib.hid hsh
    have HBI := Lib.hid hbi
    have HCH := Lib.hid hch
    obtain ⟨oa, oc, rfl⟩ := hrow.shape
    obtain ⟨ba, bc, rfl, _⟩ := hbi.shape
    have hszr := hrow.below.size
    clear hrow hsh hbi hch
    by_cases hlt : k < E.length
    · obtain ⟨x, hx1, hx2, hx3, hx4⟩ := HAT.out k hlt
      obtain ⟨c0, c1'⟩ := holdsD_at HH3.out (k := k) (by omega)
      rw [hx1] at c0 c1'
      have cx0 := (HRW.out.below.cell (p := ⟨g, k * 2, none⟩) hgW).trans c0
      have cx1 := (HRW.out.below.cell (p := ⟨g, k * 2 + 1, none⟩) hgW).trans c1'
      have HX1 := Lib.hid hx1
      have HX2 := Lib.hid hx2
      have HXI : Hid (∀ X, Below W.heap.size W X → IsInts X (.slice x.a x.l.length x.c) x.l) := fun X hX => hx3.below (HBW.out.trans (hX.mono HBW.out.size)) (Nat.le_refl _)
      have HXR := Lib.hid (HRO.out _ hx4)
      clear c0 c1' hx1 hx2 hx3 hx4
      obtain ⟨xv, xa, xc, xl⟩ := x
      simp only at cx0 cx1 HX2 HXI HXR
      have HWA : Hid (Below W.heap.size W (wr.alloc (.cells #[.int .i64 xv, .slice xa xl.length xc] 51))) := HRW.out.below.alloc hszr _
      have HPA := Lib.hid (ispart_any _ _ (befL r k) xl _ (HBI.out.below HWA.out (Nat.le_refl _)) (HXI.out _ HWA.out))
      cases hpl : partL (befL r k) xl with
      | false =>
        rw [hpl] at HPA
        have HNC : Hid (linR r U = ([], 30)) := by
          show _ = _
          unfold linR
          rw [chain_no (r := r) (k := k) (by omega) (by rw [HX2.out]; exact hpl)]
          rfl
        clear hpl
        go_wp2_with (go_at_call 43; refine HPA.out.mono ?_; rintro e wq ⟨rfl, hwq⟩)
        go_ret2
        refine HFIN.out _ _ ?_
        rw [HNC.out]
        exact ⟨_, [], rfl, JoinSt.nil _ _, rfl, by rw [← hwq]; exact HBW.out.trans (HWA.out.mono HBW.out.size)⟩
      | true =>
        rw [hpl] at HPA
        have HPL := Lib.hid hpl
        clear hpl
        go_wp2_with (go_at_call 43; refine HPA.out.mono ?_; rintro e wq ⟨rfl, hwq⟩)
        have HQ1 : Hid (Below W.heap.size W wq ∧ wq.heap[wr.heap.size]? = some (.cells #[.int .i64 xv, .slice xa xl.length xc] 51 (0, 0)) ∧ Below wr.heap.size wr wq ∧ wr.heap.size < wq.heap.size) := by
          show _ ∧ _
          rw [← hwq]
          exact ⟨HWA.out, World.alloc_heap_new wr _, (Below.refl _ _).alloc (Nat.le_refl _) _, by simp⟩
        have HWO : Hid (∀ X, Below W.heap.size W X → Calls Tryz.prog 44 #[.slice xa xl.length xc, .slice ba (befL r k).length bc] X (RetOwn X (withoutI xl (befL r k)))) := fun X hX =>
          without1_any _ _ xl (befL r k) X (HXI.out X hX) (HBI.out.below hX (Nat.le_refl _)) (befL_le (fun x hx => (HRO.out x hx).1.1) (by omega)) (by have := HXR.out.1.2; omega)
        clear hwq cx0 cx1
        have hS0 : Sx W wr.heap.size (.int .i64 xv) (.slice xa xl.length xc) wq.drew := ⟨HQ1.out.1.drew, HQ1.out.2.1⟩
        have hbd0 : Below wr.heap.size wr wq.drew := HQ1.out.2.2.1.drew
        have hnb0 : wr.heap.size < wq.drew.heap.size := HQ1.out.2.2.2
        refine wp_region_held_drew (S := Sx W wr.heap.size (.int .i64 xv) (.slice xa xl.length xc)) (by kernel_rfl) hS0 (fun hSd => ?_)
        clear hS0
        generalize wq.drew = wd at *
        have hnb := hnb0
        refine takeW (i := 0) (v := .slice oa t.length oc) (some 28) rfl rfl (by kernel_rfl) (by kernel_rfl) (by kernel_rfl) (fun _ _ _ h => h) (Or.inl ⟨by rfl, ?_⟩) (by assumption) ?_
        · intro wz hSw; obtain ⟨y0, y1⟩ := hSw.cells; go_simp
        try simp only [Act.put, List.setIfInBounds_toArray, List.set_cons_zero, List.set_cons_succ]
        refine takeW (i := 1) (v := .pointer (some ⟨wr.heap.size, 1, none⟩)) (some 29) rfl rfl (by kernel_rfl) (by kernel_rfl) (by kernel_rfl) (fun _ _ _ h => h) (Or.inl ⟨by rfl, ?_⟩) (by assumption) ?_
        · intro wz hSw; obtain ⟨y0, y1⟩ := hSw.cells; go_simp
        try simp only [Act.put, List.setIfInBounds_toArray, List.set_cons_zero, List.set_cons_succ]
        refine takeW (i := 2) (v := .slice xa xl.length xc) (some 30) rfl rfl (by kernel_rfl) (by kernel_rfl) (by kernel_rfl) (fun _ _ _ h => h) (Or.inl ⟨by rfl, ?_⟩) (by assumption) ?_
        · intro wz hSw; obtain ⟨y0, y1⟩ := hSw.cells; go_simp
        try simp only [Act.put, List.setIfInBounds_toArray, List.set_cons_zero, List.set_cons_succ]
        refine takeW (i := 3) (v := .slice ba (befL r k).length bc) (some 31) rfl rfl (by kernel_rfl) (by kernel_rfl) (by kernel_rfl) (fun _ _ _ h => h) (Or.inl ⟨by rfl, ?_⟩) (by assumption) ?_
        · intro wz hSw; obtain ⟨y0, y1⟩ := hSw.cells; go_simp
        try simp only [Act.put, List.setIfInBounds_toArray, List.set_cons_zero, List.set_cons_succ]
        refine takeW (i := 6) (v := .pointer (some ⟨wr.heap.size, 0, none⟩)) (some 34) rfl rfl (by kernel_rfl) (by kernel_rfl) (by kernel_rfl) (fun _ _ _ h => h) (Or.inl ⟨by rfl, ?_⟩) (by assumption) ?_
        · intro wz hSw; obtain ⟨y0, y1⟩ := hSw.cells; go_simp
        try simp only [Act.put, List.setIfInBounds_toArray, List.set_cons_zero, List.set_cons_succ]
        refine takeW (i := 7) (v := .int .i64 xv) (some 35) rfl rfl (by kernel_rfl) (by kernel_rfl) (by kernel_rfl) (fun _ _ _ h => h) (Or.inl ⟨by rfl, ?_⟩) (by assumption) ?_
        · intro wz hSw; obtain ⟨y0, y1⟩ := hSw.cells; go_simp
        try simp only [Act.put, List.setIfInBounds_toArray, List.set_cons_zero, List.set_cons_succ]
        apply cut3 (P := Tryz.prog) (md := .any) (G := fun ua uc h wx => Below wd.heap.size wd wx ∧ Own wx wd.heap.size (.slice ua (withoutI xl (befL r k)).length uc) (withoutI xl (befL r k)) ∧ wx.heap[h]? = some (.cells #[.int .i64 xv] 3 (0, 0)) ∧ wd.heap.size ≤ h)
        · intro tail
          refine wpAnyH_ready (rs := [4, 8]) (by kernel_rfl) (by simp) ?_
          refine AllReadyH.cons rfl (fun K hK => ?_) ?_
          · go_simp
            go_wp2_with (go_at_call 44; refine (HWO.out wd hSd.1).mono ?_; rintro e w5 ⟨u5, rfl, ho5, hb5⟩; obtain ⟨ua, uc, rfl⟩ := ho5.shapeA)
            refine hK.out _ _ (hSd.below hb5 hnb) (fun hH5 => ?_)
            clear hK K
            refine takeW (i := 5) (v := .agg #[.bool false, .slice ua (withoutI xl (befL r k)).length uc]) (some 33) rfl rfl (by kernel_rfl) (by kernel_rfl) (by kernel_rfl) (fun _ _ _ h => h) (Or.inl ⟨by rfl, ?_⟩) (by assumption) ?_
            · intro wz hSw; obtain ⟨y0, y1⟩ := hSw.cells; go_simp
            try simp only [Act.put, List.setIfInBounds_toArray, List.set_cons_zero, List.set_cons_succ]
            refine wpAnyH_ready (rs := [8]) (by kernel_rfl) (by simp) ?_
            refine AllReadyH.cons rfl (fun K hK => ?_) AllReadyH.nil
            go_simp
            refine hK.out _ _ (hH5.alloc (Nat.lt_of_lt_of_le hnb hb5.size) _) (fun hH6 => ?_)
            clear hK K
            refine takeW (i := 9) (v := .agg #[.bool true, .slice (some ⟨w5.heap.size, 0, none⟩) 1 1]) (some 37) rfl rfl (by kernel_rfl) (by kernel_rfl) (by kernel_rfl) (fun _ _ _ h => h) (Or.inl ⟨by rfl, ?_⟩) (by assumption) ?_
            · intro wz hSw; obtain ⟨y0, y1⟩ := hSw.cells; go_simp
            try simp only [Act.put, List.setIfInBounds_toArray, List.set_cons_zero, List.set_cons_succ]
            have hG : Below wd.heap.size wd (w5.alloc (.cells #[.int .i64 xv] 3)) ∧ Own (w5.alloc (.cells #[.int .i64 xv] 3)) wd.heap.size (.slice ua (withoutI xl (befL r k)).length uc) (withoutI xl (befL r k)) ∧ (w5.alloc (.cells #[.int .i64 xv] 3)).heap[w5.heap.size]? = some (.cells #[.int .i64 xv] 3 (0, 0)) ∧ wd.heap.size ≤ w5.heap.size := ⟨hb5.alloc hb5.size _, ho5.alloc _, World.alloc_heap_new w5 _, hb5.size⟩
            generalize w5.alloc (.cells #[.int .i64 xv] 3) = w6 at *
            generalize w5.heap.size = h5 at *
            exact tail ua uc h5 w6 hG
          · refine AllReadyH.cons rfl (fun K hK => ?_) AllReadyH.nil
            go_simp
            refine hK.out _ _ (hSd.alloc hnb _) (fun hH5 => ?_)
            clear hK K
            refine takeW (i := 9) (v := .agg #[.bool true, .slice (some ⟨wd.heap.size, 0, none⟩) 1 1]) (some 37) rfl rfl (by kernel_rfl) (by kernel_rfl) (by kernel_rfl) (fun _ _ _ h => h) (Or.inl ⟨by rfl, ?_⟩) (by assumption) ?_
            · intro wz hSw; obtain ⟨y0, y1⟩ := hSw.cells; go_simp
            try simp only [Act.put, List.setIfInBounds_toArray, List.set_cons_zero, List.set_cons_succ]
            have hbd : Below wd.heap.size wd (wd.alloc (.cells #[.int .i64 xv] 3)) := (Below.refl _ _).alloc (Nat.le_refl _) _
            have hhd : (wd.alloc (.cells #[.int .i64 xv] 3)).heap[wd.heap.size]? = some (.cells #[.int .i64 xv] 3 (0, 0)) := World.alloc_heap_new wd _
            have hsd : (wd.alloc (.cells #[.int .i64 xv] 3)).heap.size = wd.heap.size + 1 := by simp
            generalize wd.alloc (.cells #[.int .i64 xv] 3) = w4 at *
            refine wpAnyH_ready (rs := [4]) (by kernel_rfl) (by simp) ?_
            refine AllReadyH.cons rfl (fun K hK => ?_) AllReadyH.nil
            go_simp
            go_wp2_with (go_at_call 44; refine (HWO.out w4 hH5.1).mono ?_; rintro e w5 ⟨u5, rfl, ho5, hb5⟩; obtain ⟨ua, uc, rfl⟩ := ho5.shapeA)
            refine hK.out _ _ (hH5.below hb5 (by omega)) (fun hH6 => ?_)
            clear hK K
            refine takeW (i := 5) (v := .agg #[.bool false, .slice ua (withoutI xl (befL r k)).length uc]) (some 33) rfl rfl (by kernel_rfl) (by kernel_rfl) (by kernel_rfl) (fun _ _ _ h => h) (Or.inl ⟨by rfl, ?_⟩) (by assumption) ?_
            · intro wz hSw; obtain ⟨y0, y1⟩ := hSw.cells; go_simp
            try simp only [Act.put, List.setIfInBounds_toArray, List.set_cons_zero, List.set_cons_succ]
            have hG : Below wd.heap.size wd w5 ∧ Own w5 wd.heap.size (.slice ua (withoutI xl (befL r k)).length uc) (withoutI xl (befL r k)) ∧ w5.heap[wd.heap.size]? = some (.cells #[.int .i64 xv] 3 (0, 0)) ∧ wd.heap.size ≤ wd.heap.size := ⟨hbd.trans (hb5.mono (by omega)), ho5.mono (by omega), (hb5.block _ (by omega)).trans hhd, Nat.le_refl _⟩
            exact tail ua uc wd.heap.size w5 hG
        · rintro ua uc h wx ⟨hgb, hgo, hgh, hgl⟩
          have hSx := hSd.below hgb hnb
          have hnx : wr.heap.size < wx.heap.size := Nat.lt_of_lt_of_le hnb hgb.size
          refine wpAnyH_ready (rs := [10]) (by kernel_rfl) (by simp) ?_
          refine AllReadyH.cons rfl (fun K hK => ?_) AllReadyH.nil
          go_simp
          refine hK.out _ _ (hSx.alloc hnx _) (fun hH7 => ?_)
          clear hK K
          have hb7 : Below wr.heap.size wr (wx.alloc (.cells #[.bool false, .slice ua (withoutI xl (befL r k)).length uc, .bool true, .slice (some ⟨h, 0, none⟩) 1 1] 53)) := (hbd0.trans (hgb.mono (Nat.le_of_lt hnb))).alloc (Nat.le_of_lt hnx) _
          have ho7 : Own (wx.alloc (.cells #[.bool false, .slice ua (withoutI xl (befL r k)).length uc, .bool true, .slice (some ⟨h, 0, none⟩) 1 1] 53)) W.heap.size (.slice ua (withoutI xl (befL r k)).length uc) (withoutI xl (befL r k)) := (hgo.alloc _).mono hSd.1.size
          have hh7 : Own (wx.alloc (.cells #[.bool false, .slice ua (withoutI xl (befL r k)).length uc, .bool true, .slice (some ⟨h, 0, none⟩) 1 1] 53)) W.heap.size (.slice (some ⟨h, 0, none⟩) 1 1) [xv] := own_one (((Below.refl _ _).alloc (Nat.le_refl _) _).block _ ((Array.getElem?_eq_some_iff.1 hgh).1) |>.trans hgh) (Nat.le_trans hSd.1.size hgl)
          have hc7 : ∀ j y, (cellsT [(false, .slice ua (withoutI xl (befL r k)).length uc, withoutI xl (befL r k)), (true, .slice (some ⟨h, 0, none⟩) 1 1, [xv])])[j]? = some y → (wx.alloc (.cells #[.bool false, .slice ua (withoutI xl (befL r k)).length uc, .bool true, .slice (some ⟨h, 0, none⟩) 1 1] 53)).cell? (Addr.add ⟨wx.heap.size, 0, none⟩ j) = some y := fun j y hj => cell_add hj
          generalize wx.alloc (.cells #[.bool false, .slice ua (withoutI xl (befL r k)).length uc, .bool true, .slice (some ⟨h, 0, none⟩) 1 1] 53) = w7 at *
          refine wpAnyH_ready (rs := [11]) (by kernel_rfl) (by simp) ?_
          refine AllReadyH.cons rfl (fun K hK => ?_) AllReadyH.nil
          refine step_appBs (some 39) rfl rfl (.tmp 28) (.tmp 38) rfl W.heap.size (.slice oa t.length oc) t [(false, .slice ua (withoutI xl (befL r k)).length uc, withoutI xl (befL r k)), (true, .slice (some ⟨h, 0, none⟩) 1 1, [xv])] wx.heap.size 2 rfl rfl (HRW.out.below' hb7 (Nat.le_refl _)).row hc7 (by intro u hu; simp [cellsT] at hu; rcases hu with rfl | rfl | rfl | rfl <;> rfl) (by have h1 := linP_len r k; rw [← HSH.out, shapeT_len] at h1; simp; omega) hH7.1.size ?_
          intro v8 w8 hrow8 hg8
          have hne : (Value.slice oa t.length oc).ownBlock ≠ some wr.heap.size := fun e => by
            have := (rowB_lt HRW.out.row _ e).2
            omega
          have hS8 : Sx W wr.heap.size (.int .i64 xv) (.slice xa xl.length xc) w8 := ⟨hH7.1.grown hg8 hH7.1.size (fun g hg => (rowB_lt HRW.out.row g hg).1), (hg8.block _ ((Array.getElem?_eq_some_iff.1 hH7.2).1) (fun e => hne e.symm)).trans hH7.2⟩
          refine hK.out _ _ hS8 (fun hH8 => ?_)
          clear hK K
          try simp only [Act.put, List.setIfInBounds_toArray, List.set_cons_zero, List.set_cons_succ]
          refine takeW (i := 12) (v := v8) (some 5) rfl rfl (by kernel_rfl) (by kernel_rfl) (by kernel_rfl) (fun _ _ _ h => h) (Or.inl ⟨by rfl, ?_⟩) (by assumption) ?_
          · intro wz hSw; go_simp
          try simp only [Act.put, List.setIfInBounds_toArray, List.set_cons_zero, List.set_cons_succ]
          refine wpAnyH_done (by kernel_rfl) ?_ _
          have HRN := Lib.hid (RowB.more HRW.out hszr hb7 (fun x hx => by
            simp only [List.mem_cons, List.not_mem_nil, or_false] at hx
            rcases hx with rfl | rfl
            · exact .inl ho7
            · exact .inl hh7) hrow8 hg8)
          obtain ⟨y0, y1⟩ := hH8.cells
          clear hrow8 hg8 ho7 hh7 hc7 hb7
          go_wp2
          go_roundw
          case rel =>
            refine ⟨k + 1, _, by omega, by go_num, HRN.out, ?_, ?_, ?_⟩
            · rw [shapeT_app, HSH.out]
              show _ = linP r k ++ [(false, withoutI (r.getD k dD).2 (befL r k)), (true, [(r.getD k dD).1])]
              rw [HX2.out]
              rfl
            · have hbf : befL r (k + 1) = xl := by unfold befL; rw [if_neg (by omega), Nat.add_sub_cancel, HX2.out]
              rw [hbf]
              exact HXI.out W (Below.refl _ _)
            · intro j hj
              by_cases hjk : j < k
              · exact HCH.out j hjk
              · obtain rfl : j = k := by omega
                rw [HX2.out]
                exact HPL.out
          case measure => simp [intOf]; omega
    · have hke : k = E.length := by omega
      subst hke
      have hUl := HOK.out.univ
      have HWU : Hid (∀ X, Below W.heap.size W X → Calls Tryz.prog 44 #[.slice a1 U.length c1, .slice ba (befL r E.length).length bc] X (RetOwn X (withoutI U (befL r E.length)))) := fun X hX =>
        without1_any _ _ U (befL r E.length) X (HUI.out.below (HBW.out.trans (hX.mono HBW.out.size)) (Nat.le_refl _)) (HBI.out.below hX (Nat.le_refl _)) (befL_le (fun x hx => (HRO.out x hx).1.1) (by omega)) (by omega)
      have HLR : Hid (linR r U = joinA (linP r E.length ++ [(false, withoutI U (befL r E.length))])) := by
        show _ = _
        unfold linR
        rw [if_pos (by unfold chainB; rw [decide_eq_true_eq]; intro j hj; exact HCH.out j (by omega)), hrl]
      have HEL : Hid (∀ b ∈ linP r E.length ++ [(false, withoutI U (befL r E.length))], b.2.length ≤ 17592186044416 ∧ In64 b.2) := fun b hb => by
        rcases List.mem_append.1 hb with hb | hb
        · exact linP_64 (fun x hx => ⟨HR64.out x hx, (HRO.out x hx).1.2, (HRO.out x hx).2⟩) _ (by omega) b hb
        · rw [List.mem_singleton] at hb
          subst hb
          have := without_len U (befL r E.length)
          exact ⟨by simp only; omega, without_64 _ HU64.out⟩
      have HFL : Hid ((flatB (linP r E.length ++ [(false, withoutI U (befL r E.length))])).length ≤ 4000000) := by
        have h1 := linP_flat (fun x hx => (HRO.out x hx).1.2) E.length (by omega)
        have h2 := without_len U (befL r E.length)
        show _ ≤ _
        rw [flatB_app, List.length_append]
        have h3 : (flatB [(false, withoutI U (befL r E.length))]).length = (withoutI U (befL r E.length)).length := by unfold flatB; simp
        rw [h3]
        omega
      have htl : t.length + 1 ≤ 1000000 := by
        have h1 := linP_len r E.length
        rw [← HSH.out, shapeT_len] at h1
        omega
      have HTL := Lib.hid htl
      have hcz := (HRW.out.below.cell (p := ⟨w.heap.size, 0, none⟩) hwW).trans HDW.out.1
      have HBR := Lib.hid HRW.out.below
      generalize linP r E.length = LP at *
      generalize withoutI U (befL r E.length) = LU at *
      clear hUl htl
      go_wp2_with (first
        | (go_at_call 44; refine (HWU.out wr HBR.out).mono ?_; rintro e w5 ⟨u5, rfl, ho5, hb5⟩; obtain ⟨ua, uc, rfl⟩ := ho5.shapeA)
        | (at_builtin; go_loud (refine wpList_appBlk rfl (.tmp 43) (.tmp 49) rfl W.heap.size (.slice oa t.length oc) (.slice ua LU.length uc) t false LU w5.heap.size rfl rfl (HRW.out.below' (hb5.alloc hb5.size _) (Nat.le_refl _)).row (cell_fresh rfl) (cell_fresh rfl) rfl HTL.out (by have h1 := hb5.size; simp; omega) ?_; intro v8 w8 hrow8 hg8; have HL8 := Lib.hid (lin_last HRW.out hszr hb5 ho5 HSH.out HEL.out HTL.out hrow8 hg8); clear hrow8 hg8))
        | (go_at_call 24; refine (join1_any v8 (LP ++ [(false, LU)]) w8 HL8.out.1 HFL.out).mono ?_; rintro e w9 ⟨v9, t9, rfl, hj9, hsh9, hb9⟩))
      go_ret2
      refine HFIN.out _ _ ?_
      rw [HLR.out]
      have h8 := HL8.out.2.size
      exact ⟨_, t9, rfl, hj9.mono (by omega), hsh9, HBW.out.trans ((HL8.out.2.trans (hb9.mono h8)).mono HBW.out.size)⟩

end Go.Proofs.YtmiijgjpkkmoaaaGreat
