/- Joined texts: UnitsSet, UnitsSt, UnitsRun. -/
import Derived.Test.YtmhjpbhldaagmaaDoorMgF
import Derived.Deep.LoopGhost
/- asg.set: a literal is made true. -/
namespace Go.Proofs.YtmhjpbhldaagmaaDoor
open Go.RowKit
set_option linter.unusedVariables false

theorem ofN_at (l : List Nat) (k : Nat) : (ofN l).getD k 0 = ((l.getD k 0 : Nat) : Int) := by
  simp only [ofN, List.getD_eq_getElem?_getD, List.getElem?_map]
  cases l[k]? <;> rfl
theorem own_of {w : World} {B : Nat} {v : Value} {zs : List Int} (h : w.ownsInts B 3 .i64 v zs) : Own w B v zs := h.1
theorem Own.shapeL {w : World} {B : Nat} {v : Value} {xs : List Int} (h : Own w B v xs) : ∃ a cap, v = .slice a xs.length cap := by
  rcases h.2 with ⟨rfl, h2⟩ | ⟨g, cap, cur, rfl, _⟩
  · exact ⟨none, 0, by rw [h2]⟩
  · exact ⟨_, _, rfl⟩

/-- What set leaves. -/
def SetPost (n : Nat) (w : World) (vf : Value) (nh ng : Nat) (Hf : Int → Bool) (G : Int → List Nat) (left wait : List Int) (x : Int) (e : Ending) (w' : World) : Prop :=
  ∃ vw' left' wait', e = .returned (.tuple #[]) ∧ PS n w' vf vw' (nh + 1) ng (fun j => if j = x then true else Hf j) G left' wait' ∧ SInv left.length left wait (G (-x)) (G (-x)).length left' wait' ∧ Below n w w' ∧ KeepT w w'

set_option maxHeartbeats 3200000 in
set_option maxRecDepth 100000 in
theorem set_any (n : Nat) (w : World) (vf vw : Value) (nh ng : Nat) (Hf : Int → Bool) (G : Int → List Nat) (left wait : List Int) (x : Int)
    (s : PS n w vf vw nh ng Hf G left wait) (hx : litB x = true) (hng : ng ≤ 1000000) (hnh : nh ≤ 1000000) (hll : left.length ≤ 20000) (hwl : bigs left + wait.length ≤ 20000)
    (hb : ∀ i, i < left.length → 0 ≤ left.getD i 0 ∧ left.getD i 0 ≤ 200000) (hgl : ∀ i ∈ G (-x), i < left.length) (hnd : (G (-x)).Nodup) (hwn : ∀ y ∈ wait, ∃ i : Nat, y = i ∧ i < left.length) :
    Calls Tryd.prog 73 #[.pointer (some ⟨n + 3, 0, none⟩), .int .i64 x] w (SetPost n w vf nh ng Hf G left wait x) := by
  obtain ⟨x0, x1, x2⟩ := litB_bd hx
  obtain ⟨c0, c1, c2, c3, c4⟩ := s.cells
  have hsz := s.size
  have HS := Lib.hid s
  have HB := Lib.hid hb
  have HGL := Lib.hid hgl
  have HND := Lib.hid hnd
  have HWL := Lib.hid hwl
  have HST := Lib.hid (SInv.start (wait0 := wait) (G (-x)) rfl hwn)
  have HLL := Lib.hid hll
  clear s hb hgl hnd hwl c0 c3 c4 hx hwn hll
  go_enter Tryd.func73, Tryd.ntmps73
  go_wp2_with (first
    | (at_mapUpdate; refine wpList_putB rfl _ _ _ 111 rfl 3 4 Tryd.underlying3 Tryd.underlying4 Tryd.underlying111 rfl HS.out.hm (by unfold maxLen; omega) x true rfl rfl (i64w (by omega) (by omega)) ?_; intro w1 m1 k1; have hs1 := HS.out.putH k1 m1; have hc2 := (k1.cell (p := ⟨n + 3, 2, none⟩) (by simp; omega) (by simp)).trans c2; obtain ⟨v, hrunV, hoV, _, hshV, _⟩ := hs1.gm.at (t := 112) Tryd.underlying3 Tryd.underlying112 (zero_ints _) (by unfold maxLen; omega) (-x) (i64w (by omega) (by omega)); obtain ⟨av, cv, rfl⟩ := (own_of hoV).shapeL; have HS1 := Lib.hid hs1; have HO := Lib.hid hoV; have HSH := Lib.hid hshV; have HB1 := Lib.hid (k1.below (B := n) (by omega) (fun i hi e => by omega)); have HKT := Lib.hid (KeepT.of_kept k1 (fun g hg cur fz e => HS.out.hm.noT cur fz (by rw [hg] at e; exact e))); clear hs1 m1 k1 hoV hshV)
    | (at_lookup; refine wpList_lookG rfl _ _ 112 rfl (-x) rfl rfl hrunV ?_))
  go_loopw [19] (fun si wr => ∃ (k : Nat) (vw' : Value) (left' wait' : List Int), k ≤ (ofN (G (-x))).length ∧ si = .int .i64 k ∧ PS n wr vf vw' (nh + 1) ng (fun j => if j = x then true else Hf j) G left' wait' ∧ SInv left.length left wait (G (-x)) k left' wait' ∧ Below n w wr ∧
      wr.ownsInts (n + 4) 3 .i64 (.slice av (ofN (G (-x))).length cv) (ofN (G (-x))) ∧ KeepT w wr ∧ ∀ g, (Value.slice av (ofN (G (-x))).length cv).ownBlock = some g → vw'.ownBlock ≠ some g) (fun si wr => (ofN (G (-x))).length - (intOf si).toNat)
  case atStart => exact ⟨0, vw, left, wait, Nat.zero_le _, rfl, HS1.out, HST.out, HB1.out, HO.out, HKT.out, fun g hg => HSH.out g hg⟩
  case round =>
    obtain ⟨k, vw', left', wait', hk, rfl, hps, hsi, hbel, hoi, hkt, hsh⟩ := hrel
    by_cases hlt : k < (ofN (G (-x))).length
    · have hlt2 : k < (G (-x)).length := by rw [ofN_len] at hlt; exact hlt
      obtain ⟨gv, cg, ev, _, _⟩ := (own_of hoi).at (by omega)
      injection ev with e1 _ e3
      subst e1; subst e3
      have hy := (own_of hoi).cell k hlt
      rw [ofN_at] at hy
      have him : (G (-x)).getD k 0 ∈ G (-x) := by simp [List.getD, hlt2]
      have hil := HGL.out _ him
      have hln := hsi.len
      have hil2 : (G (-x)).getD k 0 < left'.length := by omega
      have hcl := hps.lr.cell ((G (-x)).getD k 0) (by omega)
      have hfz := hps.lr.frozen ((G (-x)).getD k 0)
      have hlf := hsi.lf _ hil
      have hbb := HB.out _ hil
      obtain ⟨d0, d1, d2, d3, d4⟩ := hps.cells
      have hpz := hps.size
      have hval : -1 ≤ left'.getD ((G (-x)).getD k 0) 0 ∧ left'.getD ((G (-x)).getD k 0) 0 ≤ 200000 := by rw [hlf]; split <;> omega
      obtain ⟨hv1, hv2⟩ := hval
      have hps2 := hps.setLeft ((G (-x)).getD k 0) (left'.getD ((G (-x)).getD k 0) 0 - 1)
      have HP2 := Lib.hid hps2
      have HSI := Lib.hid (fun wait'' h => hsi.step HND.out hlt2 hil wait'' h)
      have HMS := Lib.hid hsi.ms
      have HNN := Lib.hid hsi.nn
      have HLN := Lib.hid hln
      have hoi2 : (wr.setCell ⟨n + 2, (G (-x)).getD k 0, none⟩ (.int .i64 (left'.getD ((G (-x)).getD k 0) 0 - 1))).ownsInts (n + 4) 3 .i64 (.slice (some ⟨gv, 0, none⟩) (ofN (G (-x))).length cv) (ofN (G (-x))) :=
        ⟨(Kept.setCell wr ⟨n + 2, (G (-x)).getD k 0, none⟩ _).row hoi.1 (fun g hg e => by have := (hoi.1.lt g hg).1; simp at e; omega), hoi.2⟩
      have HOI := Lib.hid hoi2
      have HSH2 := Lib.hid hsh
      have HKT2 := Lib.hid (hkt.trans (KeepT.of_kept (Kept.setCell wr ⟨n + 2, (G (-x)).getD k 0, none⟩ (.int .i64 (left'.getD ((G (-x)).getD k 0) 0 - 1))) (fun g hg => hps.lr.noT g (by simp at hg; rw [hg]; rfl))))
      have HB2 := Lib.hid (hbel.setCell (p := ⟨n + 2, (G (-x)).getD k 0, none⟩) (by simp) (.int .i64 (left'.getD ((G (-x)).getD k 0) 0 - 1)))
      clear hkt
      clear hlf hbb hps2 hps hsi hoi hoi2 hsh hbel d0 d1 d2 d4 him hln
      generalize left'.getD ((G (-x)).getD k 0) 0 = y at *
      generalize (G (-x)).getD k 0 = i at *
      by_cases hpush : y - 1 = 1
      · obtain rfl : y = 2 := by omega
        have e21 : (2 : Int) - 1 = 1 := by decide
        rw [e21] at HP2 HOI HB2 HSI HKT2
        clear hpush e21
        have HC := Lib.hid (hpush_any vw' wait' (i : Int) (n + 4) (n + 3) 4 _ _ _ HP2.out.wr HP2.out.fld (by have := HWL.out; have := HMS.out; omega) (by have := HP2.out.size; omega) (fun e => by have := HP2.out.far _ e; omega) HP2.out.hh)
        go_wp2_with (go_at_call 69; refine HC.out.mono ?_; rintro e w3 ⟨v3, m3, rfl, hnow3, hhp3, hlen3, hmem3⟩)
        go_roundw
        case rel =>
          have hs3 := HP2.out.now hnow3 hhp3
          obtain ⟨ho3, hsh3⟩ := ints_now hnow3 HOI.out HSH2.out
          exact ⟨k + 1, v3, left'.set i 1, m3, by omega, by go_num, hs3, HSI.out m3 (by rw [if_pos trivial]; exact ⟨hmem3, hlen3⟩), HB2.out.trans (below_now hnow3 HP2.out.far (by have := HP2.out.size; omega)), ho3, HKT2.out.trans (hnow3.keepT HP2.out.wr HP2.out.fld), hsh3⟩
        case measure => simp [intOf]; omega
      · have hp' : (y - 1 == 1) = false := by simpa using hpush
        go_wp2
        go_roundw
        case rel => exact ⟨k + 1, vw', left'.set i (y - 1), wait', by omega, by go_num, HP2.out, HSI.out wait' (by rw [if_neg hpush]), HB2.out, HOI.out, HKT2.out, HSH2.out⟩
        case measure => simp [intOf]; omega
    · have hkk : k = (G (-x)).length := by rw [ofN_len] at hlt hk; omega
      subst hkk
      have HR : Hid (SetPost n w vf nh ng Hf G left wait x (.returned (.tuple #[])) wr) := ⟨vw', left', wait', rfl, hps, hsi, hbel, hkt⟩
      clear hps hsi hoi hsh hbel hkt
      go_wp2
      go_end0
      exact HR.out

end Go.Proofs.YtmhjpbhldaagmaaDoor

/- Steps of unit propagation in a row of the call's own. -/
namespace Go.Proofs.YtmhjpbhldaagmaaDoor
open Go.RowKit
set_option linter.unusedVariables false

/-- The cells of steps. -/
def stepCells (l : List (Int × Nat)) : List Value := l.flatMap (fun p => [.int .i64 p.1, .int .i64 (p.2 : Int)])
theorem stepCells_len (l : List (Int × Nat)) : (stepCells l).length = l.length * 2 := by
  induction l with
  | nil => rfl
  | cons p r ih => simp only [stepCells, List.flatMap_cons, List.length_append] at ih ⊢; rw [ih]; simp; omega
theorem stepCells_app (l m : List (Int × Nat)) : stepCells (l ++ m) = stepCells l ++ stepCells m := by simp [stepCells]
theorem stepCells_at (l : List (Int × Nat)) (j : Nat) (hj : j < l.length) : (stepCells l)[2 * j]? = some (.int .i64 (l.getD j (0, 0)).1) ∧ (stepCells l)[2 * j + 1]? = some (.int .i64 ((l.getD j (0, 0)).2 : Int)) := by
  induction l generalizing j with
  | nil => simp at hj
  | cons p r ih =>
    have e : stepCells (p :: r) = .int .i64 p.1 :: .int .i64 (p.2 : Int) :: stepCells r := by simp [stepCells]
    rw [e]
    cases j with
    | zero => simp
    | succ j =>
      have := ih j (by simpa using hj)
      rw [show 2 * (j + 1) = 2 * j + 1 + 1 from by omega]
      simpa using this
/-- The slice owns its row, which holds these steps. -/
def OwnS (w : World) (B : Nat) (v : Value) (l : List (Int × Nat)) : Prop := w.ownsRow B 34 2 v l.length (stepCells l)
theorem info_step : (Tryd.prog.info? 34).map (fun i => (i.zero, i.size, i.bytes)) = some (some (.agg #[.int .i64 0, .int .i64 0]), 2, 16) := by kernel_rfl
theorem OwnS.nil (w : World) (B : Nat) : OwnS w B (.slice none 0 0) [] := World.ownsRow_nil _ _ _ _
theorem OwnS.lt {w : World} {B : Nat} {v : Value} {l : List (Int × Nat)} (h : OwnS w B v l) : ∀ k, v.ownBlock = some k → B ≤ k ∧ k < w.heap.size := World.ownsRow.lt h
theorem OwnS.keptS {S : Nat → Prop} {w w' : World} {B : Nat} {v : Value} {l : List (Int × Nat)} (h : OwnS w B v l) (k : Kept S w w') (hS : ∀ g, v.ownBlock = some g → ¬ S g) : OwnS w' B v l := k.row h hS
theorem OwnS.shape {w : World} {B : Nat} {v : Value} {l : List (Int × Nat)} (h : OwnS w B v l) : ∃ a cap, v = .slice a l.length cap := by
  rcases h.2 with ⟨rfl, h2⟩ | ⟨g, cap, cur, rfl, _⟩
  · exact ⟨none, 0, by rw [h2]⟩
  · exact ⟨_, _, rfl⟩
theorem OwnS.mono {w : World} {B B' : Nat} {v : Value} {xs : List (Int × Nat)} (h : OwnS w B v xs) (hB : B' ≤ B) : OwnS w B' v xs := by
  refine ⟨h.1, ?_⟩
  rcases h.2 with hn | ⟨g, cap, cur, hv, hb, rest⟩
  · exact .inl hn
  · exact .inr ⟨g, cap, cur, hv, Nat.le_trans hB hb, rest⟩
/-- A row of steps is no row of ints. -/
theorem OwnS.ne {w : World} {B B' : Nat} {v u : Value} {l : List (Int × Nat)} {xs : List Int} (h : OwnS w B v l) (k : Own w B' u xs) : ∀ g, v.ownBlock = some g → u.ownBlock ≠ some g := by
  intro g hg hu
  rcases h.2 with ⟨rfl, h2⟩ | ⟨g1, cap, cur, rfl, _, hg1, _⟩
  · cases hg
  · rcases k.2 with ⟨rfl, h2⟩ | ⟨g2, cap2, cur2, rfl, _, hg2, _⟩
    · cases hu
    · simp [Value.ownBlock] at hg hu
      subst hg; subst hu
      rw [hg1] at hg2
      simp only [Option.some.injEq, Obj.cells.injEq] at hg2
      exact absurd hg2.2.1 (by decide)

/-- The value is a slice of these steps. -/
def IsSteps (w : World) (v : Value) (l : List (Int × Nat)) : Prop :=
  ∃ a cap, v = .slice a l.length cap ∧ l.length ≤ cap ∧ cap ≤ 9223372036854775807 ∧ l.length ≤ 1000000 ∧ (∀ p ∈ l, (-65536 ≤ p.1 ∧ p.1 ≤ 65536) ∧ p.2 < 20000) ∧
    ∃ b, (l ≠ [] → a = some ⟨b, 0, none⟩ ∧ b < w.heap.size) ∧ ∀ j, j < l.length → w.cell? ⟨b, 2 * j, none⟩ = some (.int .i64 (l.getD j (0, 0)).1) ∧ w.cell? ⟨b, 2 * j + 1, none⟩ = some (.int .i64 ((l.getD j (0, 0)).2 : Int))
theorem IsSteps.below {w w' : World} {B : Nat} {v : Value} {l : List (Int × Nat)} (h : IsSteps w v l) (hb : Below B w w') (hB : w.heap.size ≤ B) : IsSteps w' v l := by
  obtain ⟨a, cap, h1, h2, h3, h4, h5, b, ha, hc⟩ := h
  refine ⟨a, cap, h1, h2, h3, h4, h5, b, fun hl => ⟨(ha hl).1, Nat.lt_of_lt_of_le (ha hl).2 hb.size⟩, fun j hj => ?_⟩
  have hlt : b < w.heap.size := (ha (by intro h; simp [h] at hj)).2
  rw [hb.cell (p := ⟨b, 2 * j, none⟩) (Nat.lt_of_lt_of_le hlt hB), hb.cell (p := ⟨b, 2 * j + 1, none⟩) (Nat.lt_of_lt_of_le hlt hB)]
  exact hc j hj
theorem OwnS.steps {w : World} {B : Nat} {v : Value} {l : List (Int × Nat)} (h : OwnS w B v l) (hl : l.length ≤ 1000000) (hp : ∀ p ∈ l, (-65536 ≤ p.1 ∧ p.1 ≤ 65536) ∧ p.2 < 20000) : IsSteps w v l := by
  rcases h.2 with ⟨rfl, h2⟩ | ⟨g, cap, cur, rfl, hB, hg, hnc, hcm, hcs, htk⟩
  · have : l = [] := List.eq_nil_of_length_eq_zero h2
    subst this
    exact ⟨none, 0, rfl, Nat.le_refl _, by omega, by simp, by simp, 0, fun h => absurd rfl h, fun j hj => absurd hj (Nat.not_lt_zero _)⟩
  · have hlt : g < w.heap.size := (Array.getElem?_eq_some_iff.1 hg).1
    unfold maxLen at hcm
    refine ⟨_, cap, rfl, hnc, hcm, hl, hp, g, fun _ => ⟨rfl, hlt⟩, fun j hj => ?_⟩
    have at' : ∀ i, i < l.length * 2 → w.cell? ⟨g, i, none⟩ = (stepCells l)[i]? := fun i hi => by
      simp only [World.cell?, hg]
      rw [← htk, List.getElem?_take, if_pos hi]
      simp
    obtain ⟨e1, e2⟩ := stepCells_at l j hj
    rw [at' _ (by omega), at' _ (by omega)]
    exact ⟨e1, e2⟩

/-- 'append(l, Step{..})': the step lies in a new block. -/
theorem wpList_appS {w : World} {ops : Array Oper} {rest : List Oper} {o : Oper} {a : Act} {Q : Exit → Act → World → Prop} (hgd : o.guard = none) (s x : Operand)
    (ho : o.op = .call { callee := .builtin .append, args := #[s, x], argTypes := #[26, 26] }) (B : Nat) (v : Value) (l : List (Int × Nat)) (y : Int) (i : Nat) (g : Nat)
    (hs : a.eval s = v) (hx : a.eval x = .slice (some ⟨g, 0, none⟩) 1 1) (hown : OwnS w B v l) (hy : w.cell? ⟨g, 0, none⟩ = some (.int .i64 y)) (hi' : w.cell? ⟨g, 1, none⟩ = some (.int .i64 (i : Int))) (hlen : l.length < 1000000) (hB : B ≤ w.heap.size)
    (h : ∀ v' w', OwnS w' B v' (l ++ [(y, i)]) → w.grownBy w' v.ownBlock → wpList Tryd.prog ops Q rest (a.put o.dst v') w') : wpList Tryd.prog ops Q (o :: rest) a w := by
  obtain ⟨i0, hi, hz0, hz1, hz2⟩ := info_parts info_step
  refine wpList_append_own _ hgd s x 26 ho B 34 i0 (.agg #[.int .i64 0, .int .i64 0]) 2 16 Tryd.underlying26 hi hz0 hz1 hz2 rfl (by decide) v l.length _ hs hown ⟨g, 0, none⟩ 1 1 [.int .i64 y, .int .i64 (i : Int)] hx (by simp) ?_ (by simp [Value.oneCell']) (by unfold maxLen; omega) (by omega) hB ?_
  · intro j u hj
    match j, hj with
    | 0, hj => simp at hj; subst hj; simpa [Addr.add] using hy
    | 1, hj => simp at hj; subst hj; simpa [Addr.add] using hi'
  · intro v' w' h1 h2 _
    refine h v' w' ?_ h2
    unfold OwnS
    rw [List.length_append, stepCells_app]
    exact h1

theorem OwnS.keepT {w w' : World} {B : Nat} {v : Value} {l : List (Int × Nat)} (h : OwnS w B v l) (k : KeepT w w') : OwnS w' B v l := by
  refine ⟨h.1, ?_⟩
  rcases h.2 with hn | ⟨g, cap, cur, hv, hB, hg, rest⟩
  · exact .inl hn
  · exact .inr ⟨g, cap, cur, hv, hB, k g cur (0, 0) hg, rest⟩
/-- The block of steps, as it lies. -/
theorem OwnS.obj {w : World} {B : Nat} {v : Value} {l : List (Int × Nat)} (h : OwnS w B v l) : ∀ g, v.ownBlock = some g → ∃ cur, w.heap[g]? = some (.cells cur 34 (0, 0)) := by
  intro g hg
  rcases h.2 with ⟨rfl, h2⟩ | ⟨g1, cap, cur, rfl, _, hg1, _⟩
  · cases hg
  · have : g1 = g := by simpa [Value.ownBlock] using hg
    subst this
    exact ⟨cur, hg1⟩
/-- While a block of steps turns. -/
theorem PS.keptT {S : Nat → Prop} {n : Nat} {w w' : World} {vf vw : Value} {nh ng : Nat} {Hf : Int → Bool} {G : Int → List Nat} {left wait : List Int} (s : PS n w vf vw nh ng Hf G left wait) (k : Kept S w w')
    (hS : ∀ g, g < w.heap.size → S g → ∃ cur, w.heap[g]? = some (.cells cur 34 (0, 0))) : PS n w' vf vw nh ng Hf G left wait := by
  have hsz := s.size
  have no : ∀ g, w.heap[g]? ≠ none → (∀ cur fz, w.heap[g]? ≠ some (.cells cur 34 fz)) → ¬ S g := fun g h1 h2 h3 => by
    have hlt : g < w.heap.size := by
      rcases Nat.lt_or_ge g w.heap.size with h | h
      · exact h
      · exact absurd (Array.getElem?_eq_none h) h1
    obtain ⟨cur, e⟩ := hS g hlt h3
    exact h2 cur _ e
  have hn3 : ¬ S (n + 3) := no _ (by rw [s.obj]; simp) s.fld.noT
  have hn : ¬ S n := no _ (by obtain ⟨D, ⟨es, clock, hb, _⟩, _⟩ := s.hm; rw [hb]; simp) s.hm.noT
  have hr : ∀ {B : Nat} {v : Value} {xs : List Int}, Own w B v xs → ∀ g, v.ownBlock = some g → ¬ S g := fun h g hg => no g (by
    have := (h.lt g hg).2
    rw [Array.getElem?_eq_getElem this]; simp) (h.noT g hg)
  refine ⟨(k.block _ (by omega) hn3).trans s.obj, s.hm.kept k hn, ?_, k.row s.lr (hr s.lr), k.row s.wr (hr s.wr), s.hh⟩
  obtain ⟨D, h1, h2, h3, h4⟩ := s.gm
  have hb1 : ¬ S (n + 1) := by
    obtain ⟨es, clock, hb, _⟩ := h1
    exact no _ (by rw [hb]; simp) (fun cur fz e => by rw [hb] at e; cases e)
  refine ⟨D, ownsGroups_kept h1 k hb1 (fun es clock hb x hx g hg => ?_), h2, h3, fun es clock hb x hx g hg => ?_⟩
  · obtain ⟨es', clock', hb', F, _⟩ := h1
    obtain ⟨rfl, rfl⟩ : es' = es ∧ clock' = clock := by rw [hb'] at hb; simpa using hb
    obtain ⟨y, hy⟩ := F.reads x hx
    obtain ⟨z, hz, _⟩ := Go.WideElems.rd_val hy
    obtain ⟨zs, hoi, _⟩ := rowElem_inv hz
    exact hr (own_of hoi) g hg
  · obtain ⟨es', clock', hb', F, _⟩ := h1
    rw [k.block _ (by omega) hb1] at hb
    exact h4 es clock hb x hx g hg

end Go.Proofs.YtmhjpbhldaagmaaDoor

/- asg.run: what unit propagation finds. -/
namespace Go.Proofs.YtmhjpbhldaagmaaDoor
open Go.RowKit
set_option linter.unusedVariables false

/-- Clauses as they must be, and not too many. -/
structure Fine (f : List (List Int)) : Prop where
  lit : ∀ c ∈ f, ∀ x ∈ c, litB x = true
  nd : ∀ c ∈ f, c.Nodup
  len : f.length ≤ 20000
  small : ∀ c ∈ f, c.length ≤ 200000
theorem Fine.at {f : List (List Int)} (F : Fine f) {i : Nat} (hi : i < f.length) : f.getD i [] ∈ f := by simp [List.getD, hi]

/-- On the way: the literals H are true, the steps l are made. -/
def RS (n : Nat) (w0 : World) (f : List (List Int)) (vf : Value) (nh ng : Nat) (a : List Int) (gk : Nat) (lv : Value) (wr : World) : Prop :=
  ∃ (vw : Value) (H left wait : List Int) (l : List (Int × Nat)), PS n wr vf vw (nh + l.length) ng (fun k => decide (k ∈ H)) (gOf f f.length 0) left wait ∧ UInv f H left wait ∧ OwnS wr (n + 4) lv l ∧ Below n w0 wr ∧
    (∀ m c, Run f H m c → Run f a (l ++ m) c) ∧ l.length + gk ≤ f.length ∧ gk = bigs left + wait.length ∧ ∀ p ∈ l, (-65536 ≤ p.1 ∧ p.1 ≤ 65536) ∧ p.2 < 20000
/-- What run hands back. -/
def RunPost (n : Nat) (w0 : World) (f : List (List Int)) (a : List Int) (e : Ending) (w' : World) : Prop :=
  ∃ v l c, e = .returned (.tuple #[v, .int .i64 c]) ∧ Run f a l c ∧ OwnS w' (n + 4) v l ∧ l.length ≤ f.length ∧ (∀ p ∈ l, (-65536 ≤ p.1 ∧ p.1 ≤ 65536) ∧ p.2 < 20000) ∧ Below n w0 w'

theorem remL_cases (H c : List Int) : (nonF H c = [] ∧ remL (fun k => decide (k ∈ H)) c = 0) ∨ ∃ x ∈ c, -x ∉ H ∧ remL (fun k => decide (k ∈ H)) c = x := by
  unfold remL
  cases h : c.find? (fun x => !decide (-x ∈ H)) with
  | none =>
    left
    rw [List.find?_eq_none] at h
    refine ⟨?_, rfl⟩
    unfold nonF
    rw [List.filter_eq_nil_iff]
    intro x hx
    have := h x hx
    simpa using this
  | some x =>
    right
    refine ⟨x, List.mem_of_find?_eq_some h, ?_, rfl⟩
    have := List.find?_some h
    simpa using this
theorem memH (H : List Int) (x : Int) : (fun k => if k = x then true else decide (k ∈ H)) = (fun k => decide (k ∈ x :: H)) := by
  funext k
  by_cases e : k = x
  · rw [if_pos e]; simp [e]
  · rw [if_neg e]; simp [e]

/-- All clauses with its negative have been looked at. -/
theorem UInv.set2 {f : List (List Int)} {H left0 full wait0 left wait : List Int} {g : List Nat} {x : Int} {m : Nat} (u : UInv f H left0 full) (hfw : ∀ j, j ∈ full ↔ j = (m : Int) ∨ j ∈ wait0) (hxm : x ∈ f.getD m []) (s : SInv f.length left0 wait0 g g.length left wait) (hnd : ∀ c ∈ f, c.Nodup)
    (hg : ∀ i, i ∈ g ↔ i < f.length ∧ -x ∈ f.getD i []) (hx0 : x ≠ 0) (hxH : x ∉ H) (hxn : -x ∉ H) : UInv f (x :: H) left wait := by
  have s2 := s.lf
  have s4 := s.wt
  rw [List.take_length] at s2 s4
  have hc : ∀ i, i < f.length → (f.getD i []).Nodup := fun i hi => hnd _ (by simp [List.getD, hi])
  have cnt : ∀ i, i < f.length → left.getD i 0 = ((nonF (x :: H) (f.getD i [])).length : Int) := by
    intro i hi
    have e : nonF (x :: H) (f.getD i []) = (f.getD i []).filter (fun y => decide (y ≠ -x) && decide (-y ∉ H)) := by
      unfold nonF
      apply List.filter_congr
      intro y _
      by_cases e1 : y = -x
      · subst e1; simp
      · have : -y ≠ x := fun h => e1 (by omega)
        simp [e1, this]
    rw [e, filter_strike (hc i hi), s2 i hi, u.cnt i hi]
    have e3 : (-x ∈ f.getD i [] ∧ decide (-(-x) ∉ H) = true) ↔ i ∈ g := by
      rw [hg, Int.neg_neg]; simp [hxH, hi]
    simp only [e3]
    rfl
  refine ⟨s.len, cnt, fun j hj => ?_, fun i hi hl => ?_, fun y hy hn => ?_⟩
  · obtain ⟨i, e, hi⟩ := s.nn j hj
    refine ⟨i, e, hi, ?_⟩
    rw [s2 i hi]
    rw [e] at hj
    rcases (s4 i).1 hj with h | ⟨h, h2⟩
    · obtain ⟨i', e', _, hle⟩ := u.win _ ((hfw _).2 (Or.inr h))
      obtain rfl : i = i' := by omega
      split <;> omega
    · rw [if_pos h]; omega
  · rw [s2 i hi] at hl
    by_cases h1 : left0.getD i 0 ≤ 1
    · rcases u.all i hi h1 with h | ⟨y, hy, hH⟩
      · rcases (hfw _).1 h with h | h
        · have : i = m := by omega
          exact Or.inr ⟨x, this ▸ hxm, List.mem_cons_self⟩
        · exact Or.inl ((s4 i).2 (Or.inl h))
      · exact Or.inr ⟨y, hy, List.mem_cons_of_mem _ hH⟩
    · by_cases h2 : i ∈ g
      · rw [if_pos h2] at hl
        exact Or.inl ((s4 i).2 (Or.inr ⟨h2, by omega⟩))
      · rw [if_neg h2] at hl; omega
  · rcases List.mem_cons.1 hy with h | h
    · subst h
      rcases List.mem_cons.1 hn with h | h
      · omega
      · exact hxn h
    · rcases List.mem_cons.1 hn with h2 | h2
      · exact hxn (by rw [← h2, Int.neg_neg]; exact h)
      · exact u.con y h h2

set_option maxHeartbeats 3200000 in
set_option maxRecDepth 100000 in
theorem run_any (n : Nat) (w0 w : World) (av : Option Addr) (cap : Nat) (vw : Value) (nh ng : Nat) (left wait : List Int) (f : List (List Int)) (a : List Int)
    (F : Fine f) (s : PS n w (.slice av f.length cap) vw nh ng (fun k => decide (k ∈ a)) (gOf f f.length 0) left wait) (u : UInv f a left wait) (hm : bigs left + wait.length ≤ f.length)
    (HR : IsRows w0 (.slice av f.length cap) f) (h0 : w0.heap.size = n) (hb : Below n w0 w) (hng : ng ≤ 1000000) (hnh : nh ≤ 200000) :
    Calls Tryd.prog 35 #[.pointer (some ⟨n + 3, 0, none⟩)] w (RunPost n w0 f a) := by
  have HSt : Hid (RS n w0 f (.slice av f.length cap) nh ng a (bigs left + wait.length) (.slice none 0 0) w) := ⟨vw, a, left, wait, [], s, u, OwnS.nil _ _, hb, fun m c h => h, by simpa using hm, rfl, by simp⟩
  have hlen := F.len
  have HF := Lib.hid F
  have HRR := Lib.hid HR
  clear s u hm HR hb F
  have hta : ∀ (x : Int) (w : World), (Instr.typeAssert (.iface 3 (.int .i64 x)) 20 3 false).run Tryd.prog w = .ok (.int .i64 x) w := fun _ _ => by kernel_rfl
  go_enter Tryd.func35, Tryd.ntmps35
  go_wp2
  go_loopg [2] (bigs left + wait.length) (fun gk lv wr => RS n w0 f (.slice av f.length cap) nh ng a gk lv wr)
  case atStart => exact HSt.out
  case round =>
    clear HSt
    obtain ⟨vw', H, left', wait', l, hps, hu, hos, hbel, hrun, hlg, hgk, hpl⟩ := hrel
    obtain ⟨d0, d1, d2, d3, d4⟩ := hps.cells
    obtain ⟨al, cl, rfl⟩ := hos.shape
    have HP := Lib.hid hps
    have HU := Lib.hid hu
    have HO := Lib.hid hos
    have HB := Lib.hid hbel
    have HRun := Lib.hid hrun
    have HPL := Lib.hid hpl
    have HGK := Lib.hid hgk
    clear hps hu hos hbel hrun hpl hgk d0 d1 d2 d3
    have HW := Lib.hid (wlen_any vw' wait' (n + 4) wr HP.out.wr)
    by_cases hw : 0 < wait'.length
    · obtain ⟨m, hwm⟩ : ∃ m, wait'.length = m + 1 := ⟨wait'.length - 1, by omega⟩
      have hmin : wait'.getD 0 0 ∈ wait' := getD_mem hw
      obtain ⟨i, hwi, hif, hle⟩ := HU.out.win _ hmin
      have HPop : Hid (Calls Tryd.prog 71 #[.iface 117 (.pointer (some ⟨n + 3, 4, none⟩))] wr (fun e w2 => ∃ v2 m2, e = .returned (.iface 3 (.int .i64 (i : Int))) ∧ PS n w2 (.slice av f.length cap) v2 (nh + l.length) ng (fun k => decide (k ∈ H)) (gOf f f.length 0) left' m2 ∧ m2.length + 1 = wait'.length ∧ (∀ y, y ∈ wait' ↔ y = (i : Int) ∨ y ∈ m2) ∧ OwnS w2 (n + 4) (.slice al l.length cl) l ∧ Below n w0 w2)) := by
        refine (hpop_any vw' wait' m (n + 4) (n + 3) 4 _ _ wr HP.out.wr HP.out.fld hwm (by have := HGK.out; omega) (fun e => by have := HP.out.far _ e; omega) HP.out.hh).mono ?_
        rintro e w2 ⟨v2, m2, he, hnow, hhp2, hlen2, hmem2, _⟩
        rw [hwi] at he hmem2
        exact ⟨v2, m2, he, HP.out.now hnow hhp2, hlen2, hmem2, HO.out.keepT (hnow.keepT HP.out.wr HP.out.fld), HB.out.trans (below_now hnow HP.out.far (by have := HP.out.size; omega))⟩
      have hleast : ∀ j ∈ wait', (i : Int) ≤ j := fun j hj => by
        obtain ⟨k, hk, e⟩ := (inN_mem wait' j).2 hj
        rw [← e, ← hwi]
        exact hp_least HP.out.hh k hk
      have him : (i : Int) ∈ wait' := hwi ▸ hmin
      have HLE := Lib.hid hleast
      have HIM := Lib.hid him
      have HLI := Lib.hid hle
      have hcl := HF.out.lit _ (HF.out.at hif)
      have HCL := Lib.hid hcl
      have hi2 : i < 20000 := by omega
      clear hleast him hle hcl hmin hwi hwm
      go_wp2_with (go_at_call 70; refine HW.out.mono ?_; rintro e w1 ⟨rfl, rfl⟩)
      refine HPop.out.mono ?_
      rintro e w2 ⟨v2, m2, rfl, hps2, hlen2, hmem2, hos2, hbel2⟩
      have hrem := remaining_any n w2 av cap v2 (nh + l.length) ng (fun k => decide (k ∈ H)) (gOf f f.length 0) left' m2 f i hps2 (HRR.out.below hbel2 (by omega)) hif HCL.out
      have HP2 := Lib.hid hps2
      have HM2 := Lib.hid hmem2
      have HO2 := Lib.hid hos2
      have HB2 := Lib.hid hbel2
      obtain ⟨d0, d1, d2, d3, d4⟩ := hps2.cells
      clear hps2 hmem2 hos2 hbel2 HPop HP HW HO HB d0 d2 d3
      have hcas := remL_cases H (f.getD i [])
      generalize remL (fun k => decide (k ∈ H)) (f.getD i []) = z at *
      have HRM := Lib.hid hrem
      clear hrem
      rcases hcas with ⟨hn, rfl⟩ | ⟨x, hxc, hxn, rfl⟩
      · have hcf := HU.out.conf HIM.out HLE.out hn
        have HR : Hid (RunPost n w0 f a (.returned (.tuple #[.slice al l.length cl, .int .i64 (i : Int)])) w2) := ⟨_, l, i, rfl, by have := HRun.out [] i (.conf hcf.1 hcf.2); rw [List.append_nil] at this; exact this, HO2.out, by omega, HPL.out, HB2.out⟩
        clear hn hcf
        go_wp2_with (go_at_call 72; refine HRM.out.mono ?_; rintro e w3 ⟨rfl, rfl⟩)
        go_ret2
        exact HR.out
      · obtain ⟨x0, x1, x2⟩ := litB_bd (HCL.out z hxc)
        have hzl := HCL.out z hxc
        have hz0 : (z == 0) = false := by simpa using x0
        by_cases hxH : z ∈ H
        · have hd : decide (z ∈ H) = true := by simpa using hxH
          have HS : Hid (RS n w0 f (.slice av f.length cap) nh ng a (gk - 1) (.slice al l.length cl) w2) := by
            have e1 := HGK.out
            exact ⟨v2, H, left', m2, l, HP2.out, HU.out.skip HM2.out hxc hxH, HO2.out, HB2.out, HRun.out, by omega, by omega, HPL.out⟩
          have HX := Lib.hid hxH
          clear hxH hxc hxn
          go_wp2_with (first | (go_at_call 72; refine HRM.out.mono ?_; rintro e w3 ⟨rfl, rfl⟩) | (at_lookup; refine wpList_lookB rfl _ _ 111 rfl 3 4 Tryd.underlying3 Tryd.underlying4 Tryd.underlying111 (zero_bool _) rfl HP2.out.hm z rfl (i64w (by omega) (by omega)) ?_; rw [hd]))
          go_roundg (gk - 1)
          case measure => have := HGK.out; omega
          case rel => exact HS.out
        · have hd : decide (z ∈ H) = false := by simpa using hxH
          have hu1 := HU.out.unit HIM.out HLE.out hxc hxn hxH
          have hsk : UInv f H left' wait' := HU.out
          -- the state behind the step and set
          have HS : Hid (∀ w4 lv4 w5 vw5 left5 wait5, OwnS w4 (n + 4) lv4 (l ++ [(z, i)]) → Below n w0 w4 → PS n w5 (.slice av f.length cap) vw5 (nh + l.length + 1) ng (fun j => if j = z then true else decide (j ∈ H)) (gOf f f.length 0) left5 wait5 →
              SInv left'.length left' m2 (gOf f f.length 0 (-z)) (gOf f f.length 0 (-z)).length left5 wait5 → Below n w4 w5 → KeepT w4 w5 → RS n w0 f (.slice av f.length cap) nh ng a (gk - 1) lv4 w5) := by
            intro w4 lv4 w5 vw5 left5 wait5 ho4 hb4 hp5 hs5 hb5 hk5
            have e1 := HGK.out
            have hms := hs5.ms
            rw [memH] at hp5
            have hu2 : UInv f (z :: H) left5 wait5 := by
              rw [HU.out.len] at hs5
              exact HU.out.set2 HM2.out hxc hs5 HF.out.nd (gOf_mem f (-z)) x0 hxH hxn
            refine ⟨vw5, z :: H, left5, wait5, l ++ [(z, i)], by rw [List.length_append]; exact hp5, hu2, ho4.keepT hk5, hb4.trans hb5, fun m c hr => ?_, by simp; omega, by omega, fun p hp => ?_⟩
            · rw [List.append_assoc]
              exact HRun.out _ _ (.step hu1.1 hu1.2 hr)
            · rcases List.mem_append.1 hp with h | h
              · exact HPL.out p h
              · have : p = (z, i) := by simpa using h
                rw [this]
                exact ⟨⟨x1, x2⟩, hi2⟩
          have hbd : ∀ k, k < left'.length → 0 ≤ left'.getD k 0 ∧ left'.getD k 0 ≤ 200000 := fun k hk => by
            rw [HU.out.len] at hk
            rw [HU.out.cnt k hk]
            have h1 := List.length_filter_le (fun x => decide (-x ∉ H)) (f.getD k [])
            have h2 := HF.out.small _ (HF.out.at hk)
            unfold nonF
            omega
          have HSet : Hid (∀ w4, PS n w4 (.slice av f.length cap) v2 (nh + l.length) ng (fun k => decide (k ∈ H)) (gOf f f.length 0) left' m2 → Calls Tryd.prog 73 #[.pointer (some ⟨n + 3, 0, none⟩), .int .i64 z] w4 (SetPost n w4 (.slice av f.length cap) (nh + l.length) ng (fun k => decide (k ∈ H)) (gOf f f.length 0) left' m2 z)) := fun w4 hp4 =>
            set_any n w4 _ v2 _ ng _ _ left' m2 z hp4 hzl hng (by omega) (by rw [HU.out.len]; exact hlen) (by have := HGK.out; omega) hbd (fun k hk => by rw [HU.out.len]; exact ((gOf_mem f (-z) k).1 hk).1) (gOf_nodup f (-z)) (fun y hy => by
              obtain ⟨k, e, hk, _⟩ := HU.out.win y ((HM2.out y).2 (Or.inr hy))
              exact ⟨k, e, by rw [HU.out.len]; exact hk⟩)
          have HZL := Lib.hid hzl
          clear hbd hu1 hsk hxc hxn hxH hzl
          go_wp2_with (first
            | (go_at_call 72; refine HRM.out.mono ?_; rintro e w3 ⟨rfl, rfl⟩)
            | (at_lookup; refine wpList_lookB rfl _ _ 111 rfl 3 4 Tryd.underlying3 Tryd.underlying4 Tryd.underlying111 (zero_bool _) rfl HP2.out.hm z rfl (i64w (by omega) (by omega)) ?_; rw [hd])
            | (at_builtin; refine wpList_appS rfl _ _ rfl (n + 4) _ l z i w2.heap.size rfl rfl (HO2.out.keepT (KeepT.alloc _ _)) (by simp) (by simp) (by omega) (by have := HP2.out.size; simp; omega) ?_; intro v4 w4 ho4 hg4; have hps4 := (HP2.out.alloc (.cells #[.int .i64 z, .int .i64 (i : Int)] 34)).keptT (Kept.of_grown hg4) (fun g hg e => (HO2.out.keepT (KeepT.alloc w2 _)).obj g e); have hb4 := (HB2.out.alloc (by have := HP2.out.size; omega) (.cells #[.int .i64 z, .int .i64 (i : Int)] 34)).grown hg4 (by have := HP2.out.size; simp; omega) (fun k hk => by have := (HO2.out.lt k hk).1; omega); obtain ⟨a4, c4, rfl⟩ := ho4.shape; have HO4 := Lib.hid ho4; have HB4 := Lib.hid hb4; have HP4 := Lib.hid hps4; clear ho4 hb4 hps4 hg4)
            | (go_at_call 73; refine (HSet.out _ HP4.out).mono ?_; rintro e w5 ⟨vw5, left5, wait5, rfl, hp5, hs5, hb5, hk5⟩))
          go_roundg (gk - 1)
          case measure => have := HGK.out; omega
          case rel => exact HS.out w4 _ w5 vw5 left5 wait5 (by have := HO4.out; rw [show (l ++ [(z, i)]).length = l.length + 1 from by simp] at this; exact this) HB4.out hp5 hs5 hb5 hk5
    · have hwe : wait' = [] := List.eq_nil_of_length_eq_zero (by omega)
      subst hwe
      have HR : Hid (RunPost n w0 f a (.returned (.tuple #[.slice al l.length cl, .int .i64 (-1)])) wr) := ⟨_, l, -1, rfl, by have := HRun.out [] (-1) (.done HU.out.over); rw [List.append_nil] at this; exact this, HO.out, by omega, HPL.out, HB.out⟩
      go_wp2_with (go_at_call 70; refine HW.out.mono ?_; rintro e w1 ⟨rfl, rfl⟩)
      go_ret2
      exact HR.out

end Go.Proofs.YtmhjpbhldaagmaaDoor
