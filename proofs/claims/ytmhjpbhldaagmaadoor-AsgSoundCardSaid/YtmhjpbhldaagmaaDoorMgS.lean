/- Joined texts: CloneR, TurnP, RevR. -/
import Derived.Test.YtmhjpbhldaagmaaDoorMgK
import Derived.Test.YtmhjpbhldaagmaaDoorMgQ
import Derived.RegionTactic
import Derived.ChangeAlike
import Derived.BigRegion
/- slices.Clone of a list of lists of integers. -/
namespace Go.Proofs.YtmhjpbhldaagmaaDoor
open Go.RowKit
set_option linter.unusedVariables false

theorem IsInts.unalloc {w : World} {T : TypeId} {u : Value} {l : List Int} (h : IsInts (w.alloc (.cells #[] T)) u l) : IsInts w u l := by
  obtain ⟨a, cap, h1, h2, h3, h4, h5, b, off, ha, hc⟩ := h
  have key : ∀ j, j < l.length → b ≠ w.heap.size := fun j hj e => by
    have := hc j hj
    subst e
    have e0 := zat0 (w := w) (o := .cells #[] T) rfl
    simp only [World.cell?, e0] at this
    simp at this
  refine ⟨a, cap, h1, h2, h3, h4, h5, b, off, fun hne => ?_, fun j hj => ?_⟩
  · obtain ⟨g1, g2⟩ := ha hne
    rw [sizez] at g2
    have := key 0 (List.length_pos_iff.2 hne)
    exact ⟨g1, by omega⟩
  · have h6 := hc j hj
    simp only [World.cell?, heapz, if_neg (key j hj)] at h6 ⊢
    exact h6
def ClonedR (w : World) (f : List (List Int)) (e : Ending) (w' : World) : Prop := ∃ A c T, e = .returned (.slice A T.length c) ∧ OwnR w' w.heap.size (.slice A T.length c) T ∧ RowsAre w T f ∧ Below w.heap.size w w'
set_option maxHeartbeats 800000 in
set_option maxRecDepth 100000 in
theorem cloner_any (v : Value) (f : List (List Int)) (w : World) (H : IsRows w v f) (h24 : f.length * 24 ≤ 140737488351232) : Calls Tryd.prog 20 #[v] w (ClonedR w f) := by
  have hb := zst (o := .cells #[] 23) (Below.refl w.heap.size w)
  have H1 := H.below hb (Nat.le_refl _)
  have HO : OwnR (w.alloc (.cells #[] 23)) w.heap.size (.slice (some ⟨w.heap.size, 0, none⟩) 0 0) [] := OwnR.litz rfl rfl (by simp)
  obtain ⟨a, cap, rfl, hfl⟩ := H.shape
  cases a with
  | none =>
    obtain ⟨vs, hra, hvl, _, hnil⟩ := H.valsz
    obtain ⟨h0, rfl⟩ := hnil rfl
    have hf : f = [] := List.eq_nil_of_length_eq_zero h0
    subst hf
    have he : ∀ w : World, (binOp .eql 22 (.slice none 0 0) (.slice none 0 0)).run Tryd.prog w = .ok (.bool true) w := fun _ => rfl
    go_enter Tryd.func20, Tryd.ntmps20
    go_wp2
    go_ret
    exact ⟨none, 0, [], rfl, OwnR.nil _ _, RowsAre.nil _, Below.refl _ _⟩
  | some p =>
    have he : ∀ w : World, (binOp .eql 22 (.slice (some p) f.length cap) (.slice none 0 0)).run Tryd.prog w = .ok (.bool false) w := fun _ => rfl
    go_enter Tryd.func20, Tryd.ntmps20
    go_wp2_with (at_builtin; refine wpList_appRs rfl (.tmp 5) (.tmp 6) rfl w.heap.size _ [] (some p) f.length cap f rfl rfl H1 HO [] (RowsAre.nil _) (by simp) h24 (by simp) ?_; intro w1 T A c hT hown hg)
    go_ret
    have hT2 : RowsAre w T f := ⟨hT.1, fun j hj => (hT.2 j hj).unalloc⟩
    exact ⟨A, c, T, rfl, hown, hT2, belowR hb HO (by simp) hg⟩

end Go.Proofs.YtmhjpbhldaagmaaDoor

/- Rows put in another order: reckoned. Parts of rows that came in, and rows that outlive a store into another row. -/
namespace Go.Proofs.YtmhjpbhldaagmaaDoor
open Go.RowKit
set_option linter.unusedVariables false

def turnL (f : List (List Int)) (k : Nat) : List (List Int) := (f.drop k ++ f.take k).reverse
theorem turn_mem (f : List (List Int)) (k : Nat) (x : List Int) : x ∈ f ↔ x ∈ turnL f k := by
  unfold turnL
  rw [List.mem_reverse, List.mem_append]
  constructor
  · intro h
    rw [← List.take_append_drop k f, List.mem_append] at h
    exact h.symm
  · rintro (h | h)
    · exact List.mem_of_mem_drop h
    · exact List.mem_of_mem_take h
theorem turn_len (f : List (List Int)) (k : Nat) : (turnL f k).length = f.length := by unfold turnL; simp; omega
theorem tot_rev (f : List (List Int)) : tot f.reverse = tot f := by
  induction f with
  | nil => rfl
  | cons x r ih =>
    rw [List.reverse_cons, tot_append, ih, tot_cons, tot_cons]
    simp [tot]
    omega
theorem turn_tot (f : List (List Int)) (k : Nat) : tot (turnL f k) = tot f := by
  unfold turnL
  rw [tot_rev, tot_append, Nat.add_comm, ← tot_append, List.take_append_drop]
theorem turn_may (f : List (List Int)) (k : Nat) : mayCnfB f = mayCnfB (turnL f k) := by
  unfold mayCnfB
  rw [turn_len, turn_tot, decide_eq_decide]
  constructor
  · rintro ⟨h1, h2, h3⟩
    exact ⟨h1, h2, fun l hl => h3 l ((turn_mem f k l).2 hl)⟩
  · rintro ⟨h1, h2, h3⟩
    exact ⟨h1, h2, fun l hl => h3 l ((turn_mem f k l).1 hl)⟩

/-- A part of rows that came in. -/
theorem IsRows.part {w : World} {b off n cap : Nat} {f : List (List Int)} (H : IsRows w (.slice (some ⟨b, off, none⟩) n cap) f) {i j : Nat} (hij : i ≤ j) (hj : j ≤ n) {A : Option Addr} (hA : A = if cap = i then some ⟨b, off, none⟩ else some ⟨b, off + i, none⟩) :
    IsRows w (.slice A (j - i) (cap - i)) ((f.take j).drop i) := by
  obtain ⟨a', cap', e, ⟨h1, h2⟩, h3, h4, b', off', ha, hc⟩ := H
  injection e with e1 e2 e3
  subst e3
  have hl : ((f.take j).drop i).length = j - i := by simp; omega
  refine ⟨A, cap - i, by rw [hl], ⟨by rw [hl]; omega, fun h => ?_⟩, by omega, by rw [hl]; omega, b, off + i, fun hne => ?_, fun t ht => ?_⟩
  · rw [hA] at h
    split at h <;> cases h
  · have hpos : 0 < j - i := by rw [← hl]; exact List.length_pos_iff.2 hne
    have hf : f ≠ [] := fun h => by rw [h] at e2; simp at e2; omega
    obtain ⟨g1, g2⟩ := ha hf
    rw [← e1] at g1
    injection g1 with g1
    injection g1 with g1 g3 _
    subst g1
    refine ⟨?_, g2⟩
    rw [hA, if_neg (by omega)]
  · rw [hl] at ht
    have hf : f ≠ [] := fun h => by rw [h] at e2; simp at e2; omega
    obtain ⟨g1, g2⟩ := ha hf
    rw [← e1] at g1
    injection g1 with g1
    injection g1 with g1 g3 _
    subst g1; subst g3
    obtain ⟨u, hu, hi⟩ := hc (i + t) (by omega)
    refine ⟨u, by rw [Nat.add_assoc]; exact hu, ?_⟩
    have e9 : ((f.take j).drop i).getD t [] = f.getD (i + t) [] := by
      simp only [List.getD, List.getElem?_drop, List.getElem?_take]
      rw [if_pos (by omega)]
    rw [e9]
    exact hi
theorem IsRows.from {w : World} {b off n cap : Nat} {f : List (List Int)} (H : IsRows w (.slice (some ⟨b, off, none⟩) n cap) f) {i : Nat} (hi : i ≤ n) {A : Option Addr} (hA : A = if cap = i then some ⟨b, off, none⟩ else some ⟨b, off + i, none⟩) :
    IsRows w (.slice A (n - i) (cap - i)) (f.drop i) := by
  have hn : n = f.length := by obtain ⟨a', cap', e, _⟩ := H; injection e
  have := H.part hi (Nat.le_refl _) hA
  rw [hn, List.take_length] at this
  rw [hn]
  exact this
theorem IsRows.upto {w : World} {a : Option Addr} {n cap : Nat} {f : List (List Int)} (H : IsRows w (.slice a n cap) f) {j : Nat} (hj : j ≤ n) : IsRows w (.slice a j cap) (f.take j) := by
  obtain ⟨a', cap', e, ⟨h1, h2⟩, h3, h4, b, off, ha, hc⟩ := H
  injection e with e1 e2 e3
  subst e1; subst e2; subst e3
  have hl : (f.take j).length = j := by simp; omega
  refine ⟨a, cap, by rw [hl], ⟨by rw [hl]; omega, h2⟩, h3, by rw [hl]; omega, b, off, fun hne => ha fun h => hne (by rw [h]; simp), fun t ht => ?_⟩
  rw [hl] at ht
  obtain ⟨u, hu, hi⟩ := hc t (by omega)
  refine ⟨u, hu, ?_⟩
  have e9 : (f.take j).getD t [] = f.getD t [] := by
    simp only [List.getD, List.getElem?_take]
    rw [if_pos ht]
  rw [e9]
  exact hi

theorem RowsAre.rev {w : World} {us : List Value} {ls : List (List Int)} (h : RowsAre w us ls) : RowsAre w us.reverse ls.reverse := by
  refine ⟨by simp [h.1], fun j hj => ?_⟩
  have hlen := h.1
  have hj' : j < ls.length := by simpa using hj
  have := h.2 (ls.length - 1 - j) (by omega)
  simp only [List.getD] at this ⊢
  rw [List.getElem?_reverse (by omega), List.getElem?_reverse hj', hlen]
  exact this
set_option maxRecDepth 100000 in
/-- 'append(s, f...)' over rows of an elder world, in a region that draws its order: the values are those of the elder world. -/
theorem step_appRs0 {w0 w : World} {ops : Array Oper} {o : Oper} {a : Act} {K : Act → World → Prop} {Q : Exit → Act → World → Prop} {E : Prop} (d : Option Tmp) (hd : o.dst = d) (hgd : o.guard = none) (s x : Operand)
    (ho : o.op = .call { callee := .builtin .append, args := #[s, x], argTypes := #[22, 22] }) (B : Nat) (v : Value) (us : List Value) (af : Option Addr) (m cap : Nat) (f : List (List Int))
    (hs : a.eval s = v) (hx : a.eval x = .slice af m cap) (H : IsRows w0 (.slice af m cap) f) (hb0 : Below w0.heap.size w0 w) (hown : OwnR w B v us) (ls : List (List Int)) (hr : RowsAre w0 us ls) (hus : us.length ≤ 1000000) (hm : m ≤ 1000000) (hB : B ≤ w.heap.size)
    (h : ∀ w' T A c, RowsAre w0 T (ls ++ f) → OwnR w' B (.slice A T.length c) T → w.grownBy w' v.ownBlock → K (a.put d (.slice A T.length c)) w') :
    if Region.wanted o (yielded ops a.tmps) = true then Oper.wp Tryd.prog o a w K Q else E := by
  subst hd
  have hw : Region.wanted o (yielded ops a.tmps) = true := by simp [Region.wanted, hgd]
  rw [if_pos hw]
  obtain ⟨i0, hi, hz0, hz1, hz2⟩ := info_parts info_ints
  have H0 := H
  obtain ⟨vs, hra, hvl, hcell, hnil⟩ := H.valsz
  have hmf : m = f.length := by rw [← hvl, hra.1]
  have hblk : ∀ ad, af = some ad → f ≠ [] → ad.block < w0.heap.size := fun ad e hne => by
    obtain ⟨a', cap', e1, _, _, _, b, off, ha, _⟩ := H0
    injection e1 with e1 _ _
    obtain ⟨g1, g2⟩ := ha hne
    rw [← e1, e] at g1
    injection g1 with g1
    rw [g1]
    exact g2
  have hone : ∀ u ∈ vs, u.oneCell' = true := fun u hu => by
    obtain ⟨j, hj, rfl⟩ := List.mem_iff_getElem.1 hu
    have hk := hra.2 j (by rw [← hra.1]; exact hj)
    have e : vs.getD j (.slice none 0 0) = vs[j] := by simp [List.getD, hj]
    rw [e] at hk
    obtain ⟨a', c', e'⟩ := hk.shape
    rw [e']; rfl
  cases af with
  | none =>
    obtain ⟨rfl, rfl⟩ := hnil rfl
    have : vs = [] := List.eq_nil_of_length_eq_zero hvl
    subst this
    have hrun := run_append_owned_none (P := Tryd.prog) (w := w) B 22 o.type 23 i0 1 Tryd.underlying22 hi v us.length us hown
    have hk := hr.append hra
    rw [List.append_nil] at hk
    have hw2 := hown
    obtain ⟨A, c, rfl⟩ := hown.shape'
    unfold Oper.wp
    simp [execOp, ho, resolve, invoke, builtin, hs, hx, hrun, Result.andThen]
    exact h w us A c hk hw2 (World.grownBy.refl _ _)
  | some ad =>
    obtain ⟨v', w', hr1, h2, h3, _, _⟩ := run_append_own_at (P := Tryd.prog) (w := w) B 22 o.type 23 i0 (.slice none 0 0) 1 24 Tryd.underlying22 hi hz0 hz1 hz2 rfl (by decide) v us.length us hown ad m cap vs (by rw [hvl]; omega) (fun j u hj => by
      have hne : f ≠ [] := by
        intro e
        have h1 := (List.getElem?_eq_some_iff.1 hj).1
        rw [hra.1, e] at h1
        exact absurd h1 (Nat.not_lt_zero _)
      obtain ⟨ad', e, hc⟩ := hcell hne
      injection e with e
      subst e
      rw [hb0.cell (p := ad.add j) (by have := hblk ad rfl hne; unfold Addr.add; split <;> exact this)]
      exact hc j u hj) hone (by unfold maxLen; omega) (by omega) hB
    have hw : OwnR w' B v' (us ++ vs) := by
      unfold OwnR
      rw [List.length_append, hvl]
      exact h2
    have hw2 := hw
    obtain ⟨A, c, rfl⟩ := hw.shape'
    unfold Oper.wp execOp
    simp only [ho, resolve, invoke, builtin, Sem.run_bind, Sem.run_pure, Result.andThen_ok, List.map_toArray, List.map_cons, List.map_nil, hs, hx, hr1]
    exact h w' (us ++ vs) A c (hr.append hra) hw2 h3

end Go.Proofs.YtmhjpbhldaagmaaDoor

/- slices.Reverse on rows that a call owns. -/
namespace Go.Proofs.YtmhjpbhldaagmaaDoor
open Go.RowKit
set_option linter.unusedVariables false

/-- Behind k swaps. -/
def RevK (us ws : List Value) (k : Nat) : Prop := ws.length = us.length ∧ ∀ t, t < us.length → ws.getD t (.slice none 0 0) = if t < k ∨ us.length - k ≤ t then us.getD (us.length - 1 - t) (.slice none 0 0) else us.getD t (.slice none 0 0)
theorem RevK.start (us : List Value) : RevK us us 0 := ⟨rfl, fun t ht => by rw [if_neg (by omega)]⟩
theorem RevK.step {us ws : List Value} {k m : Nat} (h : RevK us ws k) (hkm : k < m) (hm : m + k + 1 = us.length) : RevK us ((ws.set k (ws.getD m (.slice none 0 0))).set m (ws.getD k (.slice none 0 0))) (k + 1) := by
  have e1 := h.2 k (by omega)
  have e2 := h.2 m (by omega)
  rw [if_neg (by omega)] at e1 e2
  refine ⟨by simp [h.1], fun t ht => ?_⟩
  have e3 := h.2 t ht
  have hl := h.1
  have key : ((ws.set k (ws.getD m (.slice none 0 0))).set m (ws.getD k (.slice none 0 0))).getD t (.slice none 0 0) = if t = m then ws.getD k (.slice none 0 0) else if t = k then ws.getD m (.slice none 0 0) else ws.getD t (.slice none 0 0) := by
    simp only [List.getD, List.getElem?_set, List.length_set]
    by_cases h1 : t = m
    · subst h1; simp [show t < ws.length by omega]
    · rw [if_neg (fun h => h1 h.symm), if_neg h1]
      by_cases h2 : t = k
      · subst h2; simp [show t < ws.length by omega]
      · rw [if_neg (fun h => h2 h.symm), if_neg h2]
  rw [key, e1, e2, e3]
  by_cases h1 : t = m
  · subst h1
    rw [if_pos rfl, if_pos (by omega)]
    congr 1
    omega
  · rw [if_neg h1]
    by_cases h2 : t = k
    · subst h2
      rw [if_pos rfl, if_pos (by omega)]
      congr 1
      omega
    · rw [if_neg h2]
      by_cases h3 : t < k ∨ us.length - k ≤ t
      · rw [if_pos h3, if_pos (by omega)]
      · rw [if_neg h3, if_neg (by omega)]
theorem RevK.fin {us ws : List Value} {k : Nat} (h : RevK us ws k) (hk : us.length ≤ 2 * k + 1) (hk2 : 2 * k ≤ us.length) : ws = us.reverse := by
  refine List.ext_getElem (by simp [h.1]) fun t h1 h2 => ?_
  have ht : t < us.length := by rw [← h.1]; exact h1
  have e := h.2 t ht
  rw [List.getElem_reverse]
  have e1 : ws.getD t (.slice none 0 0) = ws[t] := by simp [List.getD, h1]
  have e2 : us.getD (us.length - 1 - t) (.slice none 0 0) = us[us.length - 1 - t] := by simp [List.getD, show us.length - 1 - t < us.length by omega]
  rw [← e1, e, ← e2]
  by_cases h3 : t < k ∨ us.length - k ≤ t
  · rw [if_pos h3]
  · rw [if_neg h3]
    congr 1
    omega

set_option maxHeartbeats 1600000 in
set_option maxRecDepth 100000 in
theorem reverse_any (A : Option Addr) (c : Nat) (us : List Value) (B : Nat) (w : World) (H : OwnR w B (.slice A us.length c) us) (hl : us.length ≤ 1000000) (h1 : ∀ u ∈ us, ∃ a n c, u = .slice a n c) :
    Calls Tryd.prog 21 #[.slice A us.length c] w fun e w' => e = .returned (.tuple #[]) ∧ OwnR w' B (.slice A us.length c) us.reverse ∧ Below B w w' := by
  have HH := Lib.hid H
  have HS := Lib.hid (RevK.start us)
  go_enter Tryd.func21, Tryd.ntmps21
  go_wp2
  go_loopw [2, 3] (fun i j wr => ∃ (k : Nat) (q : Int) (ws : List Value), i = .int .i64 k ∧ j = .int .i64 q ∧ q = us.length - 1 - k ∧ 2 * k ≤ us.length ∧ RevK us ws k ∧ OwnR wr B (.slice A us.length c) ws ∧ Below B w wr) (fun i _ _ => us.length - (intOf i).toNat)
  case atStart => exact ⟨0, _, us, rfl, rfl, by omega, by omega, HS.out, HH.out, Below.refl _ _⟩
  case round =>
    obtain ⟨k, q, ws, rfl, rfl, hq, h2k, hrev, hown, hbel⟩ := hrel
    by_cases hlt : (k : Int) < q
    · obtain ⟨m, rfl⟩ : ∃ m : Nat, q = m := ⟨q.toNat, by omega⟩
      have hkm : k < m := by omega
      have hmk : m + k + 1 = us.length := by omega
      have hwl := hrev.1
      obtain ⟨g, cg, e, hBg, hg⟩ := hown.at (by omega)
      injection e with e1 e2 e3
      subst e1
      clear e2
      have vmem : ∀ t, t < us.length → us.getD t (.slice none 0 0) ∈ us := fun t ht => by simp [List.getD, ht]
      obtain ⟨xa, xn, xc, ex⟩ : ∃ a n c, ws.getD k (.slice none 0 0) = .slice a n c := by
        rw [hrev.2 k (by omega), if_neg (by omega)]
        exact h1 _ (vmem k (by omega))
      obtain ⟨ya, yn, yc, ey⟩ : ∃ a n c, ws.getD m (.slice none 0 0) = .slice a n c := by
        rw [hrev.2 m (by omega), if_neg (by omega)]
        exact h1 _ (vmem m (by omega))
      clear vmem h1
      have hck := hown.cell k (by omega)
      have hcm := hown.cell m (by omega)
      have hfk := hown.frozen k
      have hfm := hown.frozen m
      have HR := Lib.hid (hrev.step hkm hmk)
      have HO := Lib.hid ((hown.store k (ws.getD m (.slice none 0 0))).store m (ws.getD k (.slice none 0 0)))
      have HB := Lib.hid ((hbel.setCell (p := ⟨g, k, none⟩) hBg (ws.getD m (.slice none 0 0))).setCell (p := ⟨g, m, none⟩) hBg (ws.getD k (.slice none 0 0)))
      have hne : k ≠ m := by omega
      have hk1 : k < us.length := by omega
      have hm1 : m < us.length := by omega
      have HMK := Lib.hid hmk
      clear hrev hown hbel hq HH HS H hwl hmk
      generalize ws.getD k (.slice none 0 0) = x at *
      generalize ws.getD m (.slice none 0 0) = y at *
      subst ex
      subst ey
      go_wp2
      go_region
      all_goals go_wp2
      all_goals go_roundw
      case rel => exact ⟨k + 1, _, _, by go_num, rfl, by have := HMK.out; omega, by have := HMK.out; omega, HR.out, HO.out, HB.out.drew⟩
      case measure => simp [intOf]; have := HMK.out; omega
    · have hfin := hrev.fin (by omega) h2k
      subst hfin
      go_wp2
      go_end0
      exact ⟨rfl, hown, hbel⟩

end Go.Proofs.YtmhjpbhldaagmaaDoor
