/- Joined texts: LargeF, TwiceP. -/
import Derived.Test.YtmhjpbhldaagmaaDoorMgN
import Derived.Test.YtmhjpbhldaagmaaDoorMgZ
import Derived.Test.YtmhjpbhldaagmaaDoorUnitsW
/- skolemlaw02.large over rows that came in and a few lists of the caller's: how many there are, and how many integers they have. -/
namespace Go.Proofs.YtmhjpbhldaagmaaDoor
open Go.RowKit
set_option linter.unusedVariables false
set_option linter.unusedSimpArgs false

theorem OwnR.litz {w : World} {us : List Value} {c : Array Value} {n : Nat} (hc : c = us.toArray) (hn : n = us.length) (hl : us.length ≤ 1000) : OwnR (w.alloc (.cells c 23)) w.heap.size (.slice (some ⟨w.heap.size, 0, none⟩) n n) us := by
  subst hc hn
  refine ⟨by simp, .inr ⟨w.heap.size, us.length, us.toArray, rfl, Nat.le_refl _, zat0 rfl, Nat.le_refl _, by unfold maxLen; omega, by simp, by simp⟩⟩
/-- The values of rows, as they lie. -/
theorem IsRows.valsz {w : World} {a : Option Addr} {n cap : Nat} {f : List (List Int)} (H : IsRows w (.slice a n cap) f) :
    ∃ vs, RowsAre w vs f ∧ vs.length = n ∧ ((f ≠ [] → ∃ ad, a = some ad ∧ ∀ (j : Nat) u, vs[j]? = some u → w.cell? (ad.add j) = some u) ∧ (a = none → n = 0 ∧ cap = 0)) := by
  have H0 := H
  obtain ⟨a', cap', e, hcap, _, _, b, off, ha, hc⟩ := H
  injection e with e1 e2 e3
  subst e1; subst e2; subst e3
  refine ⟨(List.range f.length).map (fun j => (w.cell? ⟨b, off + j, none⟩).getD (.slice none 0 0)), ⟨by simp, fun j hj => ?_⟩, by simp, fun hne => ?_, fun hn => ?_⟩
  · obtain ⟨u, hu, hi⟩ := hc j hj
    have : ((List.range f.length).map (fun j => (w.cell? ⟨b, off + j, none⟩).getD (.slice none 0 0))).getD j (.slice none 0 0) = u := by
      simp [List.getD, hj, hu]
    rw [this]; exact hi
  · obtain ⟨h1, h2⟩ := ha hne
    refine ⟨_, h1, fun j u hju => ?_⟩
    have hj : j < f.length := by
      have := (List.getElem?_eq_some_iff.1 hju).1
      simpa using this
    obtain ⟨u', hu', _⟩ := hc j hj
    simp [hj, hu'] at hju
    subst hju
    rw [Addr.add_lit]
    exact hu'
  · have := hcap.2 hn
    exact ⟨by omega, this⟩

set_option maxRecDepth 100000 in
/-- 'append(s, f...)': rows that came in, behind the call's own. -/
theorem wpList_appRs {w : World} {ops : Array Oper} {rest : List Oper} {o : Oper} {a : Act} {Q : Exit → Act → World → Prop} (hgd : o.guard = none) (s x : Operand)
    (ho : o.op = .call { callee := .builtin .append, args := #[s, x], argTypes := #[22, 22] }) (B : Nat) (v : Value) (us : List Value) (af : Option Addr) (m cap : Nat) (f : List (List Int))
    (hs : a.eval s = v) (hx : a.eval x = .slice af m cap) (H : IsRows w (.slice af m cap) f) (hown : OwnR w B v us) (ls : List (List Int)) (hr : RowsAre w us ls) (hus : us.length ≤ 100) (hm : m * 24 ≤ 140737488351232) (hB : B ≤ w.heap.size)
    (h : ∀ w' T A c, RowsAre w T (ls ++ f) → OwnR w' B (.slice A T.length c) T → w.grownBy w' v.ownBlock → wpList Tryd.prog ops Q rest (a.put o.dst (.slice A T.length c)) w') : wpList Tryd.prog ops Q (o :: rest) a w := by
  obtain ⟨i0, hi, hz0, hz1, hz2⟩ := info_parts info_ints
  obtain ⟨vs, hra, hvl, hcell, hnil⟩ := H.valsz
  have hmf : m = f.length := by rw [← hvl, hra.1]
  have hone : ∀ u ∈ vs, u.oneCell' = true := fun u hu => by
    obtain ⟨j, hj, rfl⟩ := List.mem_iff_getElem.1 hu
    have hk := hra.2 j (by rw [← hra.1]; exact hj)
    have e : vs.getD j (.slice none 0 0) = vs[j] := by simp [List.getD, hj]
    rw [e] at hk
    obtain ⟨a', c', e'⟩ := hk.shape
    rw [e']; rfl
  cases af with
  | none =>
    obtain ⟨rfl, rfl⟩ := hnil rfl
    have : vs = [] := List.eq_nil_of_length_eq_zero hvl
    subst this
    refine wpList_append_own_none hgd s x 22 ho B 23 i0 1 Tryd.underlying22 hi v us.length us hs hown hx ?_
    have hk := hr.append hra
    rw [List.append_nil] at hk
    have hw := hown
    obtain ⟨A, c, rfl⟩ := hown.shape'
    exact h w us A c hk hw (World.grownBy.refl _ _)
  | some ad =>
    refine wpList_append_own _ hgd s x 22 ho B 23 i0 (.slice none 0 0) 1 24 Tryd.underlying22 hi hz0 hz1 hz2 rfl (by decide) v us.length _ hs hown ad m cap vs hx (by rw [hvl]; omega) ?_ hone (by unfold maxLen; omega) (by omega) hB ?_
    · intro j u hj
      have hne : f ≠ [] := by
        intro e
        have h1 := (List.getElem?_eq_some_iff.1 hj).1
        rw [hra.1, e] at h1
        exact absurd h1 (Nat.not_lt_zero _)
      obtain ⟨ad', e, hc⟩ := hcell hne
      injection e with e
      subst e
      exact hc j u hj
    · intro v' w' h1 h2 _
      have hw : OwnR w' B v' (us ++ vs) := by
        unfold OwnR
        rw [List.length_append, hvl]
        exact h1
      have hw2 := hw
      obtain ⟨A, c, rfl⟩ := hw.shape'
      exact h w' (us ++ vs) A c (hr.append hra) hw2 h2

theorem tot_bd {F : List (List Int)} {b : Nat} (h : ∀ l ∈ F, l.length ≤ b) : tot F ≤ F.length * b := by
  induction F with
  | nil => simp [tot]
  | cons x r ih =>
    have h1 := h x List.mem_cons_self
    have h2 := ih fun l hl => h l (List.mem_cons_of_mem _ hl)
    unfold tot at *
    simp only [List.map_cons, List.sum_cons, List.length_cons]
    rw [Nat.add_mul]
    omega
theorem tot_take_bd {F : List (List Int)} {b n : Nat} (h : ∀ l ∈ F, l.length ≤ b) (hn : F.length ≤ n) (k : Nat) : tot (F.take k) ≤ n * b :=
  Nat.le_trans (tot_take_le F k) (Nat.le_trans (tot_bd h) (Nat.mul_le_mul_right _ hn))
theorem RowsAre.lens {w : World} {us : List Value} {ls : List (List Int)} (h : RowsAre w us ls) : ∀ l ∈ ls, l.length ≤ 17592186044416 := fun l hl => by
  obtain ⟨j, hj, rfl⟩ := List.mem_iff_getElem.1 hl
  have := (h.2 j hj)
  have e : ls.getD j [] = ls[j] := by simp [List.getD, hj]
  rw [e] at this
  obtain ⟨_, _, _, _, _, h, _⟩ := this
  exact h

def largeB (ls f : List (List Int)) : Bool := decide (200 < f.length ∨ 2000 < tot ls + tot f)

set_option maxHeartbeats 1600000 in
set_option maxRecDepth 100000 in
theorem large_any (va vl : Value) (us : List Value) (ls f : List (List Int)) (B : Nat) (w : World) (H : IsRows w va f) (HL : OwnR w B vl us) (hr : RowsAre w us ls) (hB : B ≤ w.heap.size) (hls : ls.length ≤ 2) (hb : f.length * 24 ≤ 140737488351232) :
    Calls Tryd.prog 7 #[va, vl] w fun e w' => e = .returned (.bool (largeB ls f)) ∧ Below B w w' := by
  obtain ⟨af, cf, rfl, hfl⟩ := H.shape
  obtain ⟨al, cl, rfl⟩ := HL.shape'
  have hus : us.length ≤ 100 := by have := hr.1; omega
  have HH := Lib.hid H
  have HHL := Lib.hid HL
  have HR := Lib.hid hr
  clear H HL hr
  go_enter Tryd.func7, Tryd.ntmps7
  go_wp2_with (at_builtin; refine wpList_appRs rfl (.tmp 8) (.tmp 9) rfl B _ us af f.length cf f rfl rfl HH.out HHL.out ls HR.out hus hb hB ?_; intro w1 T A c' hT hown hg)
  have hb1 := belowR (Below.refl B w) HHL.out hB hg
  have HT : Hid (RowsAre w T (ls ++ f)) := hT
  have HLN : Hid (T.length = (ls ++ f).length) := hT.1
  have htt : tot (ls ++ f) = tot ls + tot f := tot_append _ _
  have hlf : (ls ++ f).length ≤ f.length + 2 := by simp; omega
  have HBIG : Hid (200 < f.length → largeB ls f = true) := fun h => by unfold largeB; rw [decide_eq_true_eq]; exact .inl h
  have HSML : Hid (f.length ≤ 200 → largeB ls f = decide (2000 < tot (ls ++ f))) := fun h => by
    unfold largeB; rw [htt, decide_eq_decide]; constructor
    · rintro (h1 | h1)
      · omega
      · exact h1
    · exact .inr
  clear hg hT htt
  generalize ls ++ f = t at *
  have HBD := Lib.hid HT.out.lens
  by_cases hbig : 200 < f.length
  · go_loopw [5, 12] (fun n i wr => ∃ (k : Nat) (x : Int), k ≤ T.length ∧ i = .int .i64 k ∧ n = .int .i64 x ∧ OwnR wr B (.slice A T.length c') T ∧ Below B w wr) (fun _ i _ => T.length - (intOf i).toNat)
    case atStart => exact ⟨0, 0, Nat.zero_le _, rfl, rfl, hown, hb1⟩
    case round =>
      clear hown hb1
      obtain ⟨k, x, hk, rfl, rfl, hown, hbel⟩ := hrel
      have HB := Lib.hid hbel
      have HO := Lib.hid hown
      clear hbel
      by_cases hlt : k < T.length
      · have hT9 : T.length ≤ 9223372036854775807 := by
          rcases hown.2 with ⟨_, h2⟩ | ⟨g, cap, cur, _, _, _, h1, h2, _⟩
          · omega
          · unfold maxLen at h2; omega
        obtain ⟨g, cg, e, _, _⟩ := hown.at (by omega)
        injection e with e1 _ e3
        subst e1
        have hc := hown.cell k hlt
        have hs := HT.out.2 k (by rw [← HLN.out]; exact hlt)
        obtain ⟨a', c2, es⟩ := hs.shape
        rw [es] at hc
        generalize (t.getD k []).length = lk at *
        clear hs es hown
        go_wp2
        go_roundw
        case rel => exact ⟨k + 1, _, by omega, by go_num, rfl, HO.out, HB.out⟩
        case measure => simp [intOf]; omega
      · clear hown
        go_wp2
        go_ret
        exact ⟨ret_bool (by rw [HBIG.out hbig]), HB.out⟩
  · have HTB : Hid (∀ k, tot (t.take k) ≤ 202 * 17592186044416) := fun k => tot_take_bd HBD.out (by omega) k
    go_loopw [5, 12] (fun n i wr => ∃ (k m : Nat), k ≤ T.length ∧ i = .int .i64 k ∧ n = .int .i64 m ∧ m = tot (t.take k) ∧ OwnR wr B (.slice A T.length c') T ∧ Below B w wr) (fun _ i _ => T.length - (intOf i).toNat)
    case atStart => exact ⟨0, 0, Nat.zero_le _, rfl, rfl, by simp [tot], hown, hb1⟩
    case round =>
      clear hown hb1
      obtain ⟨k, m, hk, rfl, rfl, hm, hown, hbel⟩ := hrel
      have HB := Lib.hid hbel
      have HO := Lib.hid hown
      have HM := Lib.hid hm
      clear hbel hm
      by_cases hlt : k < T.length
      · have hT9 : T.length ≤ 9223372036854775807 := by
          rcases hown.2 with ⟨_, h2⟩ | ⟨g, cap, cur, _, _, _, h1, h2, _⟩
          · omega
          · unfold maxLen at h2; omega
        obtain ⟨g, cg, e, _, _⟩ := hown.at (by omega)
        injection e with e1 _ e3
        subst e1
        have hc := hown.cell k hlt
        have hs := HT.out.2 k (by rw [← HLN.out]; exact hlt)
        obtain ⟨a', c2, es⟩ := hs.shape
        rw [es] at hc
        have HTS := Lib.hid (tot_take_succ (f := t) (k := k) (by rw [← HLN.out]; exact hlt))
        have hnx := HTB.out (k + 1)
        rw [HTS.out, ← HM.out] at hnx
        generalize (t.getD k []).length = lk at *
        clear hs es hown
        go_wp2
        go_roundw
        case rel => exact ⟨k + 1, m + lk, by omega, by go_num, by go_num, by rw [HTS.out, ← HM.out], HO.out, HB.out⟩
        case measure => simp [intOf]; omega
      · have HE : Hid (m = tot t) := by show _ = _; rw [HM.out, List.take_of_length_le (by rw [← HLN.out]; omega)]
        have hsm := HSML.out (by omega)
        rw [← HE.out] at hsm
        have HSB := Lib.hid hsm
        clear hown hsm
        go_wp2
        go_ret
        exact ⟨ret_bool (by rw [HSB.out, Bool.eq_iff_iff]; simp only [Bool.or_eq_true, decide_eq_true_eq]; omega), HB.out⟩

end Go.Proofs.YtmhjpbhldaagmaaDoor

/- A formula under an assignment, and under another one: reckoned. -/
namespace Go.Proofs.YtmhjpbhldaagmaaDoor
open Go.RowKit
set_option linter.unusedVariables false
set_option linter.unusedSectionVars false

theorem join_is {a b c : List Int} (h : joinR a b = (c, 0)) : mayB a = true ∧ mayB b = true ∧ mayB c = true ∧ ∀ x, x ∈ c ↔ x ∈ a ∨ x ∈ b := by
  unfold joinR at h
  by_cases hab : (mayB a && mayB b) = true
  · rw [if_pos hab] at h
    rw [Bool.and_eq_true] at hab
    unfold tautR at h
    split at h
    · rename_i hm
      obtain rfl := (Prod.mk.inj h).1
      exact ⟨hab.1, hab.2, hm, ins_mem a b⟩
    · have := (Prod.mk.inj h).2; omega
  · rw [if_neg hab] at h
    have := (Prod.mk.inj h).2
    omega
theorem valN_join {a b c : List Int} (hc : mayB c = true) (hm : ∀ x, x ∈ c ↔ x ∈ a ∨ x ∈ b) (x : Int) : valN c x = if valN a x = 0 then valN b x else valN a x := by
  have hcons := may_cons hc
  have h0 : x ∈ c → -x ∉ c := hcons x
  rw [hm, hm] at h0
  unfold valN
  simp only [hm]
  by_cases h1 : x ∈ a
  · simp [h1]
  · by_cases h2 : -x ∈ a
    · have : x ∉ b := fun h => h0 (.inr h) (.inl h2)
      simp [h1, h2, this]
    · simp [h1, h2]
section
variable {a b c : List Int} (ha : mayB a = true) (hb : mayB b = true) (hc : mayB c = true) (hm : ∀ x, x ∈ c ↔ x ∈ a ∨ x ∈ b)
include ha hb hc hm
theorem restL_twice {r : List Int} (hr : mayB r = true) : restL b (restL a r) = restL c r := by
  unfold restL
  rw [List.filter_filter]
  apply List.filter_congr
  intro x hx
  unfold openB
  rw [valL_norm ha hr hx, valL_norm hb hr hx, valL_norm hc hr hx, valN_join hc hm x, Bool.eq_iff_iff]
  simp only [Bool.and_eq_true, beq_iff_eq]
  by_cases h : valN a x = 0
  · simp [h]
  · simp [h]
theorem may_rest {r : List Int} (hr : mayB r = true) : mayB (restL a r) = true := may_filter _ hr
theorem anyV_under {r : List Int} (hr : mayB r = true) (hn : ¬ ∃ x ∈ r, x ∈ a) {t : Int} (ht : t ≠ 2) : anyV b (restL a r) t = anyV c r t := by
  have key : ∀ x ∈ r, (openB a x && (valL b x == t)) = (valL c x == t) := fun x hx => by
    unfold openB
    rw [valL_norm ha hr hx, valL_norm hb hr hx, valL_norm hc hr hx, valN_join hc hm x]
    have h1 : valN a x ≠ 1 := fun h => hn ⟨x, hx, (valN_one a x).1 h⟩
    have hbd := valN_bd a x
    by_cases h : valN a x = 0
    · simp [h]
    · have h2 : valN a x = 2 := by omega
      simp [h2]
      omega
  unfold anyV restL
  rw [List.any_filter, Bool.eq_iff_iff, List.any_eq_true, List.any_eq_true]
  constructor
  · rintro ⟨x, hx, h⟩; exact ⟨x, hx, by rw [← key x hx]; exact h⟩
  · rintro ⟨x, hx, h⟩; exact ⟨x, hx, by rw [key x hx]; exact h⟩
theorem judge_under {r : List Int} (hr : mayB r = true) (hn : judgeL 1 2 a r ≠ 1) : judgeL 1 2 b (restL a r) = judgeL 1 2 c r := by
  have hn' : ¬ ∃ x ∈ r, x ∈ a := fun h => hn ((judge_true ha hr).2 h)
  unfold judgeL
  rw [anyV_under ha hb hc hm hr hn' (by decide), anyV_under ha hb hc hm hr hn' (by decide), hb, hc, hr, may_rest ha hb hc hm hr]
theorem judge_more {r : List Int} (hr : mayB r = true) (h : judgeL 1 2 a r = 1) : judgeL 1 2 c r = 1 := by
  obtain ⟨x, hx, hxa⟩ := (judge_true ha hr).1 h
  exact (judge_true hc hr).2 ⟨x, hx, (hm x).2 (.inl hxa)⟩
end

theorem tot_cons (x : List Int) (r : List (List Int)) : tot (x :: r) = x.length + tot r := by unfold tot; simp
theorem tot_under (p : List Int → Bool) (g : List Int → List Int) (hg : ∀ l, (g l).length ≤ l.length) (f : List (List Int)) : tot ((f.filter p).map g) ≤ tot f := by
  induction f with
  | nil => simp [tot]
  | cons x r ih =>
    rw [List.filter_cons, tot_cons]
    split
    · rw [List.map_cons, tot_cons]
      have := hg x
      omega
    · omega
theorem rest_len (a l : List Int) : (restL a l).length ≤ l.length := List.length_filter_le _ _
theorem under_may {a : List Int} {f : List (List Int)} (h : mayCnfB f = true) : mayCnfB (underL a f) = true := by
  unfold underL
  by_cases hm : mayB a = true
  · rw [hm, h, Bool.and_self, if_pos rfl]
    have h2 := cnf_may h
    unfold mayCnfB at h ⊢
    rw [decide_eq_true_eq] at h ⊢
    refine ⟨?_, Nat.le_trans (tot_under _ _ (rest_len a) f) h.2.1, fun l hl => ?_⟩
    · rw [List.length_map]; exact Nat.le_trans (List.length_filter_le _ _) h.1
    · obtain ⟨r, hr, rfl⟩ := List.mem_map.1 hl
      exact may_filter _ (h2 r (List.mem_filter.1 hr).1)
  · have hm' : mayB a = false := by simpa using hm
    rw [hm', Bool.false_and, if_neg (by simp)]
    decide
theorem under_is {a : List Int} {f : List (List Int)} (ha : mayB a = true) (hf : mayCnfB f = true) : underL a f = (f.filter (fun c => judgeL 1 2 a c != 1)).map (restL a) := by
  unfold underL
  rw [ha, hf, Bool.and_self, if_pos rfl]

theorem under_twice {a b c : List Int} {f : List (List Int)} (hf : mayCnfB f = true) (h : joinR a b = (c, 0)) : underL b (underL a f) = underL c f := by
  obtain ⟨ha, hb, hc, hm⟩ := join_is h
  have hfm := cnf_may hf
  rw [under_is hb (under_may hf), under_is ha hf, under_is hc hf, List.filter_map, List.map_map, List.filter_filter]
  have e : f.filter (fun r => ((fun l => judgeL 1 2 b l != 1) ∘ restL a) r && (judgeL 1 2 a r != 1)) = f.filter (fun r => judgeL 1 2 c r != 1) := by
    apply List.filter_congr
    intro r hr
    simp only [Function.comp_apply]
    by_cases h1 : judgeL 1 2 a r = 1
    · have h2 := judge_more ha hb hc hm (hfm r hr) h1
      simp [h1, h2]
    · rw [judge_under ha hb hc hm (hfm r hr) h1]
      simp [h1]
  rw [e]
  apply List.map_congr_left
  intro r hr
  exact restL_twice ha hb hc hm (hfm r (List.mem_filter.1 hr).1)
theorem anyC_under {a b c : List Int} {f : List (List Int)} (hf : mayCnfB f = true) (h : joinR a b = (c, 0)) {t : Int} (ht : t ≠ 1) : anyC b (underL a f) t = anyC c f t := by
  obtain ⟨ha, hb, hc, hm⟩ := join_is h
  have hfm := cnf_may hf
  rw [under_is ha hf]
  unfold anyC
  rw [Bool.eq_iff_iff, List.any_eq_true, List.any_eq_true]
  constructor
  · rintro ⟨l, hl, h1⟩
    obtain ⟨r, hr, rfl⟩ := List.mem_map.1 hl
    obtain ⟨hr1, hr2⟩ := List.mem_filter.1 hr
    refine ⟨r, hr1, ?_⟩
    rw [← judge_under ha hb hc hm (hfm r hr1) (by simpa using hr2)]
    exact h1
  · rintro ⟨r, hr, h1⟩
    have h2 : judgeL 1 2 a r ≠ 1 := fun h3 => by
      rw [judge_more ha hb hc hm (hfm r hr) h3] at h1
      simp at h1
      exact ht h1.symm
    refine ⟨restL a r, List.mem_map.2 ⟨r, List.mem_filter.2 ⟨hr, by simpa using h2⟩, rfl⟩, ?_⟩
    rw [judge_under ha hb hc hm (hfm r hr) h2]
    exact h1
theorem cnf_twice {a b c : List Int} {f : List (List Int)} (hf : mayCnfB f = true) (h : joinR a b = (c, 0)) : cnfL c f = cnfL b (underL a f) := by
  obtain ⟨ha, hb, hc, hm⟩ := join_is h
  unfold cnfL
  rw [hb, hc, hf, under_may hf, anyC_under hf h (by decide), anyC_under hf h (by decide)]

theorem under_mem {a : List Int} {f : List (List Int)} {l : List Int} (h : l ∈ underL a f) : ∃ r ∈ f, l = restL a r := by
  unfold underL at h
  split at h
  · obtain ⟨r, hr, e⟩ := List.mem_map.1 h
    exact ⟨r, (List.mem_filter.1 hr).1, e.symm⟩
  · cases h
theorem under_len (a : List Int) (f : List (List Int)) : (underL a f).length ≤ f.length := by
  unfold underL
  split
  · rw [List.length_map]; exact List.length_filter_le _ _
  · simp
theorem IsRows.mem {w : World} {v : Value} {f : List (List Int)} (H : IsRows w v f) : ∀ l ∈ f, l.length ≤ 17592186044416 ∧ In64 l := fun l hl => by
  obtain ⟨a, cap, rfl, _⟩ := H.shape
  obtain ⟨j, hj, rfl⟩ := List.mem_iff_getElem.1 hl
  obtain ⟨b, off, u, _, _, _, hu⟩ := H.at hj
  have e : f.getD j [] = f[j] := by simp [List.getD, hj]
  rw [e] at hu
  obtain ⟨_, _, _, _, _, h1, h2, _⟩ := hu
  exact ⟨h1, h2⟩

def UnderZ (w : World) (u : List (List Int)) (e : Ending) (w' : World) : Prop := ∃ A c, e = .returned (.slice A u.length c) ∧ IsRows w' (.slice A u.length c) u ∧ Below w.heap.size w w'
theorem under_rows (va vf : Value) (a : List Int) (f : List (List Int)) (w : World) (HA : IsInts w va a) (HR : IsRows w vf f) :
    Calls Tryd.prog 13 #[va, vf] w (UnderZ w (underL a f)) :=
  (under_any va vf a f w HA HR).mono fun e w' h => by
    obtain ⟨v, us, he, ho, hr, hb⟩ := h
    have hmem := HR.mem
    have hfl : f.length ≤ 17592186044416 := by obtain ⟨_, _, _, h⟩ := HR.shape; exact h
    have hR : IsRows w' v (underL a f) := by
      refine ho.rows ⟨hr.1, fun j hj => ?_⟩ (Nat.le_trans (under_len a f) hfl)
      have hin : (underL a f).getD j [] ∈ underL a f := rows_getD_mem hj
      obtain ⟨r, hrf, e⟩ := under_mem hin
      have h1 := hmem r hrf
      refine (hr.2 j hj).ints ?_ ?_
      · rw [e]; exact Nat.le_trans (rest_len a r) h1.1
      · rw [e]; exact restL_64 h1.2
    have hR0 := hR
    obtain ⟨A, c, rfl, _⟩ := hR.shape
    exact ⟨A, c, he, hR0, hb⟩

end Go.Proofs.YtmhjpbhldaagmaaDoor
