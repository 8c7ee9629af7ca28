/- Joined texts: AgFit, AgEqu. -/
import Derived.Test.YtppglbffmgnooaaGreatA13
import Derived.Test.YtppglbffmgnooaaGreatA03
import Derived.Test.YtppglbffmgnooaaGreatAgEval
import Derived.Test.YtppglbffmgnooaaGreatA08
/- skolemlaw06.fit: edges brought into a graph's range. -/
namespace Go.Proofs.YtppglbffmgnooaaGreat
open Go.RowKit Go.Maps
set_option linter.unusedVariables false
set_option linter.unusedSimpArgs false

theorem wrap_in {a : Int} (h1 : -9223372036854775808 ≤ a) (h2 : a ≤ 9223372036854775807) : IntKind.i64.wrap a = a := by
  unfold IntKind.wrap
  simp only [IntKind.signed, IntKind.bits]
  simp
  try omega
def fit1 (n : Nat) (e : Int) : Int := (e.tmod (2 * (n : Int)) + 2 * (n : Int)).tmod (2 * (n : Int))
def fitI (n : Nat) (l : List Int) : List Int := l.map (fit1 n)
theorem fit1_bd {n : Nat} (hn : 1 ≤ n) (e : Int) : 0 ≤ fit1 n e ∧ fit1 n e < 2 * (n : Int) := by
  unfold fit1
  have h0 : (0 : Int) < 2 * (n : Int) := by omega
  have h1 := Int.lt_tmod_of_pos e h0
  have h2 : (0 : Int) ≤ e.tmod (2 * (n : Int)) + 2 * (n : Int) := by omega
  exact ⟨Int.tmod_nonneg _ h2, Int.tmod_lt_of_pos _ h0⟩
theorem fitI_edges {n : Nat} (hn : 1 ≤ n) (l : List Int) : edgesB (fitI n l) n = true := by
  unfold edgesB fitI
  rw [Bool.not_eq_true', List.any_eq_false]
  intro x hx
  obtain ⟨e, _, rfl⟩ := List.mem_map.1 hx
  have := fit1_bd hn e
  have h2 : isE (fit1 n e) n = true := by unfold isE; simp; omega
  simp [h2]
set_option maxRecDepth 100000 in
set_option maxHeartbeats 3200000 in
theorem fit_any (v : Value) (l : List Int) (n : Nat) (w : World) (HL : IsInts w v l) (h1 : l.length ≤ 4000000) (hn1 : 1 ≤ n) (hn2 : n ≤ 10000000) :
    Calls Tryz.prog 47 #[v, .int .i64 (n : Int)] w fun r w' => ∃ u, r = .returned u ∧ Own w' w.heap.size u (fitI n l) ∧ Below w.heap.size w w' := by
  have HL64 := Lib.hid HL.in64
  obtain ⟨ia, ic, rfl⟩ := HL.shape
  have HLH := Lib.hid HL
  clear HL
  have HNZ : Hid ((1 : Int) ≤ (n : Int) ∧ (n : Int) ≤ 10000000) := ⟨by omega, by omega⟩
  have HNN := Lib.hid hn1
  have HDF : Hid (∀ e, fit1 n e = (e.tmod (2 * (n : Int)) + 2 * (n : Int)).tmod (2 * (n : Int))) := fun _ => rfl
  have HBD : Hid (∀ e, 0 ≤ fit1 n e ∧ fit1 n e < 2 * (n : Int)) := fit1_bd hn1
  have HSC : Hid (∀ k, k < l.length → fitI n (l.take (k + 1)) = fitI n (l.take k) ++ [fit1 n (l.getD k 0)]) := fun k hk => by
    unfold fitI; rw [List.take_succ_eq_append_getElem hk, List.map_append]; simp [List.getD, hk]
  have HALL : Hid (fitI n (l.take l.length) = fitI n l) := by show _ = _; rw [List.take_length]
  have HZ : Hid (fitI n (l.take 0) = []) := rfl
  have HLN : Hid (∀ k, (fitI n (l.take k)).length ≤ k) := fun k => by unfold fitI; rw [List.length_map]; exact List.length_take_le _ _
  generalize hnz : (n : Int) = nz at *
  generalize fit1 n = F at *
  generalize hfi : (fun k => fitI n (l.take k)) = T at *
  have HT : Hid (∀ k, fitI n (l.take k) = T k) := fun k => by rw [← hfi]
  have hb1 := HNZ.out.1
  have hb2 := HNZ.out.2
  clear hnz hfi hn1 hn2
  go_enter Tryz.func47, Tryz.ntmps47
  go_wp2
  go_loopw [5, 10] (fun out s3 wr => ∃ k : Nat, k ≤ l.length ∧ s3 = .int .i64 k ∧ Own wr w.heap.size out (T k) ∧ Below w.heap.size w wr) (fun _ s3 _ => l.length - (intOf s3).toNat)
  case atStart => exact ⟨0, Nat.zero_le _, rfl, by rw [← HT.out, HZ.out]; exact Own.nil _ _, Below.refl _ _⟩
  case round =>
    obtain ⟨k, hk, rfl, ho, hb⟩ := hrel
    have HOR := Lib.hid ho
    have HB := Lib.hid hb
    clear hb ho
    by_cases hlt : k < l.length
    · obtain ⟨b, off, rfl, hbl, hx0⟩ := HLH.out.cellY hlt
      have hx := (HB.out.cell (p := ⟨b, off + k, none⟩) hbl).trans hx0
      have HSK := HSC.out k hlt
      rw [HT.out, HT.out] at HSK
      have HSK := Lib.hid HSK
      have hlen : (T k).length < 17592186044416 := by rw [← HT.out]; have := HLN.out k; omega
      have HLEN := Lib.hid hlen
      have HKL := Lib.hid hlt
      have hkb : k < 4000000 := by omega
      have hkz : (k : Int) < (l.length : Int) := by omega
      have hF := HDF.out (l.getD k 0)
      have hFb := HBD.out (l.getD k 0)
      have h64 := HL64.out (l.getD k 0) (by simp [List.getD, hlt])
      clear hx0 hlt hlen
      generalize l.getD k 0 = e at *
      generalize F e = c at *
      obtain ⟨t, ht⟩ : ∃ t : Int, 2 * nz = t := ⟨_, rfl⟩
      have ht1 : 2 ≤ t := by omega
      have ht2 : t ≤ 20000000 := by omega
      rw [ht] at hF hFb
      have ha1 := Int.lt_tmod_of_pos e (show (0 : Int) < t by omega)
      have ha2 := Int.tmod_lt_of_pos e (show (0 : Int) < t by omega)
      obtain ⟨a, ha⟩ : ∃ a : Int, e.tmod t = a := ⟨_, rfl⟩
      rw [ha] at hF ha1 ha2
      have hc : (a + t).tmod t = c := hF.symm
      clear hF
      have hw1 : IntKind.i64.wrap (e.tmod t) = a := by rw [ha]; exact wrap_in (by omega) (by omega)
      have hw2 : IntKind.i64.wrap ((a + t).tmod t) = c := by rw [hc]; exact wrap_in (by omega) (by omega)
      go_wp2_with (at_builtin; go_loud (refine wpList_app1A rfl _ _ rfl w.heap.size _ _ c wr.heap.size rfl rfl (HOR.out.alloc _) (cell_fresh rfl) HLEN.out (by simp; have := HB.out.size; omega) ?_; intro u' w' ho' hg' _; have HO' := Lib.hid ho'; have HG' := Lib.hid hg'; clear ho' hg'))
      go_roundw
      case rel => exact ⟨k + 1, HKL.out, by go_num, by rw [HSK.out]; exact HO'.out, (HB.out.alloc HB.out.size _).grown HG'.out (by have := HB.out.size; simp; omega) (fun j e => (HOR.out.lt j e).1)⟩
      case measure => have := HKL.out; simp [intOf]; omega
    · obtain rfl : k = l.length := by omega
      have HA := Lib.hid HALL.out
      go_wp2
      go_ret
      exact ⟨_, rfl, by rw [← HALL.out, HT.out]; exact HOR.out, HB.out⟩
end Go.Proofs.YtppglbffmgnooaaGreat

/- Rows of replacements that the call makes; the law's has and equal. -/
namespace Go.Proofs.YtppglbffmgnooaaGreat
open Go.RowKit Go.Maps Go.Shelf
set_option linter.unusedVariables false
set_option linter.unusedSimpArgs false

/-- The slice owns its row, which holds these replacements. -/
def OwnO (w : World) (B : Nat) (v : Value) (A : List Pr) : Prop := w.ownsRow B 90 2 v A.length (cellsP A)
theorem info_out : (Tryz.prog.info? 90).map (fun i => (i.zero, i.size, i.bytes)) = some (some (.agg #[.int .i64 0, .int .i64 0]), 2, 16) := by kernel_rfl
theorem OwnO.nil (w : World) (B : Nat) : OwnO w B (.slice none 0 0) [] := World.ownsRow_nil _ _ _ _
theorem OwnO.lt {w : World} {B : Nat} {v : Value} {A : List Pr} (h : OwnO w B v A) : ∀ g, v.ownBlock = some g → B ≤ g ∧ g < w.heap.size := fun g hg => by
  rcases h.2 with ⟨rfl, _⟩ | ⟨g1, cap, cur, rfl, hB, hg1, _⟩
  · cases hg
  · have : g1 = g := by simpa [Value.ownBlock] using hg
    subst this
    exact ⟨hB, (Array.getElem?_eq_some_iff.1 hg1).1⟩
theorem OwnO.shape {w : World} {B : Nat} {v : Value} {A : List Pr} (h : OwnO w B v A) : ∃ a c, v = .slice a A.length c := by
  rcases h.2 with ⟨rfl, h2⟩ | ⟨g, cap, cur, rfl, _⟩
  · exact ⟨none, 0, by rw [h2]⟩
  · exact ⟨_, _, rfl⟩
/-- What its block holds. -/
theorem OwnO.obj {w : World} {B g : Nat} {v : Value} {A : List Pr} (h : OwnO w B v A) (hg : v.ownBlock = some g) : ∃ cur, w.heap[g]? = some (.cells cur 90 (0, 0)) := by
  rcases h.2 with ⟨rfl, _⟩ | ⟨g1, cap, cur, rfl, hB, hg1, _⟩
  · cases hg
  · have : g1 = g := by simpa [Value.ownBlock] using hg
    subst this
    exact ⟨_, hg1⟩
theorem OwnO.turn {w w' : World} {B : Nat} {v : Value} {A : List Pr} (h : OwnO w B v A) (hk : ∀ g, v.ownBlock = some g → w'.heap[g]? = w.heap[g]?) : OwnO w' B v A := by
  refine ⟨h.1, ?_⟩
  rcases h.2 with hn | ⟨g, cap, cur, hv, hB, hg, rest⟩
  · exact .inl hn
  · exact .inr ⟨g, cap, cur, hv, hB, (hk g (by rw [hv]; rfl)).trans hg, rest⟩
theorem OwnO.kept {w w' : World} {B : Nat} {v : Value} {A : List Pr} {S : Nat → Prop} (h : OwnO w B v A) (k : Kept S w w') (hS : ∀ g, v.ownBlock = some g → ¬ S g) : OwnO w' B v A :=
  h.turn fun g hg => k.block g (h.lt g hg).2 (hS g hg)
theorem OwnO.below {w w' : World} {B C : Nat} {v : Value} {A : List Pr} (h : OwnO w B v A) (hb : Below C w w') (hC : w.heap.size ≤ C) : OwnO w' B v A :=
  h.turn fun g hg => hb.block g (Nat.lt_of_lt_of_le (h.lt g hg).2 hC)
theorem OwnO.mono {w : World} {B B' : Nat} {v : Value} {A : List Pr} (h : OwnO w B v A) (hB : B' ≤ B) : OwnO w B' v A := by
  refine ⟨h.1, ?_⟩
  rcases h.2 with hn | ⟨g, cap, cur, hv, hb, rest⟩
  · exact .inl hn
  · exact .inr ⟨g, cap, cur, hv, Nat.le_trans hB hb, rest⟩
theorem OwnO.cells {w : World} {B : Nat} {a : Option Addr} {n cap : Nat} {A : List Pr} (h : OwnO w B (.slice a n cap) A) {j : Nat} (hj : j < A.length) : ∃ g, a = some ⟨g, 0, none⟩ ∧ B ≤ g ∧ g < w.heap.size ∧
    w.cell? ⟨g, j * 2, none⟩ = some (.int .i64 (A.getD j dPr).1) ∧ w.cell? ⟨g, j * 2 + 1, none⟩ = some (.int .i64 (A.getD j dPr).2) := by
  rcases h.2 with ⟨e, h2⟩ | ⟨g, cap, cur, e, hB, hg, hnc, hcm, hcs, htk⟩
  · omega
  · injection e with e1 e2 e3
    subst e1
    have hlt : g < w.heap.size := (Array.getElem?_eq_some_iff.1 hg).1
    have at' : ∀ i, i < A.length * 2 → w.cell? ⟨g, i, none⟩ = (cellsP A)[i]? := fun i hi => by
      simp only [World.cell?, hg]
      rw [← htk, List.getElem?_take, if_pos hi]
      simp
    obtain ⟨e1, e2⟩ := cellsP_at A j hj
    refine ⟨g, rfl, hB, hlt, ?_, ?_⟩
    · rw [at' _ (by omega)]; exact e1
    · rw [at' _ (by omega)]; exact e2
theorem OwnO.pairs {w : World} {B : Nat} {v : Value} {A : List Pr} (h : OwnO w B v A) (hl : A.length ≤ 17592186044416) (hA : InP A) : IsPairs w v A := by
  have h0 := h
  rcases h.2 with ⟨rfl, h2⟩ | ⟨g, cap, cur, rfl, hB, hg, hnc, hcm, hcs, htk⟩
  · have : A = [] := List.eq_nil_of_length_eq_zero h2
    subst this
    exact IsPairs.nil _
  · have hlt : g < w.heap.size := (Array.getElem?_eq_some_iff.1 hg).1
    unfold maxLen at hcm
    refine ⟨_, cap, rfl, ⟨hnc, fun h => by cases h⟩, hcm, hl, hA, g, 0, fun _ => ⟨rfl, hlt⟩, fun j hj => ?_⟩
    obtain ⟨g1, e, _, _, c1, c2⟩ := h0.cells hj
    have e2 : g = g1 := by
      have e3 := Option.some.inj e
      injection e3
    rw [← e2] at c1 c2
    simp only [Nat.zero_add]
    exact ⟨c1, c2⟩
/-- 'append(s, o)', o in a new block. -/
theorem wpList_appO {w : World} {ops : Array Oper} {rest : List Oper} {o : Oper} {a : Act} {Q : Exit → Act → World → Prop} (hgd : o.guard = none) (s x : Operand)
    (ho : o.op = .call { callee := .builtin .append, args := #[s, x], argTypes := #[60, 60] }) (B : Nat) (v : Value) (A : List Pr) (y : Pr) (g : Nat)
    (hs : a.eval s = v) (hx : a.eval x = .slice (some ⟨g, 0, none⟩) 1 1) (hrow : OwnO w B v A) (h0 : w.cell? ⟨g, 0, none⟩ = some (.int .i64 y.1)) (h1 : w.cell? ⟨g, 1, none⟩ = some (.int .i64 y.2)) (hlen : A.length < 4000000) (hB : B ≤ w.heap.size)
    (h : ∀ v' w', OwnO w' B v' (A ++ [y]) → w.grownBy w' v.ownBlock → (v'.ownBlock = v.ownBlock ∨ v'.ownBlock = some w.heap.size) → wpList Tryz.prog ops Q rest (a.put o.dst v') w') : wpList Tryz.prog ops Q (o :: rest) a w := by
  obtain ⟨i0, hi, hz0, hz1, hz2⟩ := info_parts info_out
  refine wpList_append_own_at _ hgd s x 60 ho B 90 i0 (.agg #[.int .i64 0, .int .i64 0]) 2 16 Tryz.underlying60 hi hz0 hz1 hz2 rfl (by decide) v A.length _ hs hrow ⟨g, 0, none⟩ 1 1 [.int .i64 y.1, .int .i64 y.2] hx (by simp) (fun j z hj => by
    match j, hj with
    | 0, hj => simp at hj; subst hj; simpa [Addr.add] using h0
    | 1, hj => simp at hj; subst hj; simpa [Addr.add] using h1) (fun z hz => by
    rcases List.mem_cons.1 hz with hz | hz
    · rw [hz]; rfl
    · rw [List.mem_singleton] at hz
      rw [hz]; rfl) (by unfold maxLen; omega) (by omega) hB fun v' w' h2 h3 _ h4 => h v' w' ?_ h3 h4
  unfold OwnO
  rw [List.length_append, cellsP_app]
  exact h2
set_option maxRecDepth 100000 in
set_option maxHeartbeats 1600000 in
theorem has6_any (vb : Value) (B : List Pr) (x : Int) (w : World) (HB : IsPairs w vb B) (hl : B.length ≤ 4000000) (hx1 : -9223372036854775808 ≤ x) (hx2 : x ≤ 9223372036854775807) :
    Calls Tryz.prog 52 #[vb, .int .i64 x] w fun e w' => e = .returned (.bool (decide (x ∈ B.map (·.1)))) ∧ Below w.heap.size w w' := by
  have HB1 := Lib.hid HB
  obtain ⟨ba, bc, rfl, _⟩ := HB.shape
  clear HB
  go_enter Tryz.func52, Tryz.ntmps52
  go_wp2
  go_loopw [9] (fun s9 wr => ∃ k : Nat, k ≤ B.length ∧ s9 = .int .i64 k ∧ Hid (x ∉ (B.take k).map (·.1)) ∧ Below w.heap.size w wr) (fun s9 _ => B.length - (intOf s9).toNat)
  case atStart => exact ⟨0, Nat.zero_le _, rfl, (fun h => by cases h), Below.refl _ _⟩
  case round =>
    obtain ⟨k, hk, rfl, HN, hbw⟩ := hrel
    have HBW := Lib.hid hbw
    clear hbw
    by_cases hlt : k < B.length
    · obtain ⟨b, off, rfl, hbl, hx0, hy0⟩ := HB1.out.at hlt
      have hx := (HBW.out.cell (p := ⟨b, off + k * 2, none⟩) hbl).trans hx0
      have hy := (HBW.out.cell (p := ⟨b, off + k * 2 + 1, none⟩) hbl).trans hy0
      have HKL := Lib.hid hlt
      have hkb : k < 4000000 := by omega
      have HT : Hid ((B.take (k + 1)).map (·.1) = (B.take k).map (·.1) ++ [(B.getD k dPr).1]) := by
        show _ = _
        rw [List.take_succ_eq_append_getElem hlt, List.map_append]
        simp [List.getD, hlt]
      have HMM : Hid ((B.getD k dPr).1 ∈ B.map (·.1)) := List.mem_map.2 ⟨B.getD k dPr, by simp [List.getD, hlt], rfl⟩
      clear hx0 hy0 hlt
      generalize B.getD k dPr = o at *
      obtain ⟨v, e⟩ := o
      simp only at hx hy HT HMM
      have hba := below_alloc1 wr (.cells #[.int .i64 v, .int .i64 e] 90)
      have HBA := Lib.hid (HBW.out.trans (hba.mono HBW.out.size))
      have hbx : (wr.alloc (.cells #[.int .i64 v, .int .i64 e] 90)).heap[wr.heap.size]? = some (.cells #[.int .i64 v, .int .i64 e] 90 (0, 0)) := World.alloc_heap_new _ _
      obtain ⟨x0, x1, _, _⟩ := box2_cells hbx
      clear hba hbx
      by_cases he : v = x
      · subst he
        have he : (v == v) = true := by simp
        go_wp2
        go_ret
        exact ⟨ret_bool (decide_eq_true HMM.out).symm, HBA.out⟩
      · have he' : (v == x) = false := by simp [he]
        have HN2 : Hid (x ∉ (B.take (k + 1)).map (·.1)) := fun h => by
          rw [HT.out] at h
          rcases List.mem_append.1 h with h | h
          · exact HN.out h
          · exact he (List.mem_singleton.1 h).symm
        clear he HN HT HMM
        go_wp2
        go_roundw
        case rel => exact ⟨k + 1, HKL.out, by go_num, HN2.out, HBA.out⟩
        case measure => have := HKL.out; simp [intOf]; omega
    · have HF : Hid (x ∉ B.map (·.1)) := by
        have h := HN.out
        rw [List.take_of_length_le (by omega)] at h
        exact h
      clear HN
      go_wp2
      go_ret
      exact ⟨ret_bool (decide_eq_false HF.out).symm, HBW.out⟩
theorem boxes_eq (w : World) (a b c d : Value) : Below w.heap.size w ((w.alloc (.cells #[a, b] 25)).alloc (.cells #[c, d] 25)) ∧
    (((w.alloc (.cells #[a, b] 25)).alloc (.cells #[c, d] 25)).cell? ⟨w.heap.size, 0, none⟩ = some a ∧ ((w.alloc (.cells #[a, b] 25)).alloc (.cells #[c, d] 25)).cell? ⟨w.heap.size, 1, none⟩ = some b) ∧
    (((w.alloc (.cells #[a, b] 25)).alloc (.cells #[c, d] 25)).cell? ⟨w.heap.size + 1, 0, none⟩ = some c ∧ ((w.alloc (.cells #[a, b] 25)).alloc (.cells #[c, d] 25)).cell? ⟨w.heap.size + 1, 1, none⟩ = some d) := by
  have hb1 := below_alloc1 w (.cells #[a, b] 25)
  have hb2 := below_alloc1 (w.alloc (.cells #[a, b] 25)) (.cells #[c, d] 25)
  have hx := boxA_new w a b
  have hy := boxA_new (w.alloc (.cells #[a, b] 25)) c d
  rw [World.size_alloc] at hy
  exact ⟨hb1.trans (hb2.mono hb1.size), ⟨(hb2.cell (p := ⟨w.heap.size, 0, none⟩) (by show w.heap.size < _; simp)).trans hx.1, (hb2.cell (p := ⟨w.heap.size, 1, none⟩) (by show w.heap.size < _; simp)).trans hx.2⟩, hy⟩
set_option maxRecDepth 100000 in
set_option maxHeartbeats 1600000 in
theorem equal6_any (vi va vl vj vc vm : Value) (I : List Int) (A : List Pr) (x : Int) (a J : List Int) (C : List Pr) (y : Int) (b : List Int) (v : Bool) (w : World) (HI : IsInts w vi I) (HA : IsPairs w va A) (HL : IsInts w vl a) (HJ : IsInts w vj J) (HC : IsPairs w vc C) (HM : IsInts w vm b)
    (h1 : I.length ≤ 4000000) (h2 : A.length ≤ 4000000) (h3 : J.length ≤ 4000000) (h4 : C.length ≤ 4000000) (x1 : -9223372036854775808 ≤ x) (x2 : x ≤ 9223372036854775807) (y1 : -9223372036854775808 ≤ y) (y2 : y ≤ 9223372036854775807) (E1 : evalC I A x a = (v, 0)) (E2 : evalC J C y b = (v, 0)) :
    Calls Tryz.prog 49 #[.agg #[vi, va], .int .i64 x, vl, .agg #[vj, vc], .int .i64 y, vm] w fun e w' => e = .returned (.bool true) ∧ Below w.heap.size w w' := by
  obtain ⟨ia, ic, rfl⟩ := HI.shape
  obtain ⟨ga, gc, rfl, _⟩ := HA.shape
  obtain ⟨la, lc, rfl⟩ := HL.shape
  obtain ⟨ja, jc, rfl⟩ := HJ.shape
  obtain ⟨ca, cc, rfl, _⟩ := HC.shape
  obtain ⟨ma, mc, rfl⟩ := HM.shape
  obtain ⟨hb0, hp, hq⟩ := boxes_eq w (.slice ia I.length ic) (.slice ga A.length gc) (.slice ja J.length jc) (.slice ca C.length cc)
  have hz0 : ((w.alloc (.cells #[.slice ia I.length ic, .slice ga A.length gc] 25)).alloc (.cells #[.slice ja J.length jc, .slice ca C.length cc] 25)).heap.size = w.heap.size + 2 := by simp
  have HE1 := fun (X : World) (hX : Below w.heap.size w X) => geval_any _ _ _ I A x a X (HI.below hX (Nat.le_refl _)) (HA.below hX (Nat.le_refl _)) (HL.below hX (Nat.le_refl _)) h1 h2 x1 x2
  have HE2 := fun (X : World) (hX : Below w.heap.size w X) => geval_any _ _ _ J C y b X (HJ.below hX (Nat.le_refl _)) (HC.below hX (Nat.le_refl _)) (HM.below hX (Nat.le_refl _)) h3 h4 y1 y2
  rw [E1] at HE1
  rw [E2] at HE2
  have HF1 := Lib.hid HE1
  have HF2 := Lib.hid HE2
  clear HI HA HL HJ HC HM E1 E2 HE1 HE2
  go_enter Tryz.func49, Tryz.ntmps49
  go_upto_region 1 with fail
  generalize World.alloc (World.alloc w _) _ = W at *
  have HB0 := Lib.hid hb0
  have HQ : Hid (∀ X, Below W.heap.size W X → X.cell? ⟨w.heap.size + 1, 0, none⟩ = some (.slice ja J.length jc) ∧ X.cell? ⟨w.heap.size + 1, 1, none⟩ = some (.slice ca C.length cc)) := fun X hX => ⟨(hX.cell (p := ⟨w.heap.size + 1, 0, none⟩) (by show w.heap.size + 1 < _; omega)).trans hq.1, (hX.cell (p := ⟨w.heap.size + 1, 1, none⟩) (by show w.heap.size + 1 < _; omega)).trans hq.2⟩
  obtain ⟨p0, p1⟩ := hp
  clear hb0 hq hz0
  have hvv : (v == v) = true := by simp
  go_upto_region 2 with (go_at_call 27; refine (HF1.out W HB0.out).mono ?_; rintro e w1 ⟨rfl, hb⟩; have HB1 := Lib.hid hb; clear hb p0 p1)
  obtain ⟨q0, q1⟩ := HQ.out w1 HB1.out
  go_upto_region 3 with (go_at_call 27; refine (HF2.out w1 (HB0.out.trans (HB1.out.mono HB0.out.size))).mono ?_; rintro e w2 ⟨rfl, hb⟩; have HB2 := Lib.hid (HB1.out.trans (hb.mono HB1.out.size)); clear hb q0 q1)
  go_wp2
  go_ret
  exact ⟨rfl, HB0.out.trans (HB2.out.mono HB0.out.size)⟩
end Go.Proofs.YtppglbffmgnooaaGreat
