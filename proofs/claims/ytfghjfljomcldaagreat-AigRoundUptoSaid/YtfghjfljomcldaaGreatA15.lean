/- Joined texts: AgReduced, AgToP, AgToR, AgGrow, AgFromL. -/
import Derived.Test.YtfghjfljomcldaaGreatA03
import Derived.Test.YtfghjfljomcldaaGreatA02
import Derived.Test.YtfghjfljomcldaaGreatA13
import Derived.Test.YtfghjfljomcldaaGreatA14
import Derived.Test.YtfghjfljomcldaaGreatA11
/- aig.Reduced: the program's answer is the reference's. -/
namespace Go.Proofs.YtfghjfljomcldaaGreat
open Go.RowKit Go.Maps
set_option linter.unusedVariables false
set_option linter.unusedSimpArgs false
attribute [local go_sem] drew_cellq drew_frozenq

theorem idx_le : ∀ (A : List Pr) (p : Pr) (j : Nat), j < A.length → A.getD j dPr = p → A.idxOf p ≤ j
  | [], _, _, h, _ => absurd h (Nat.not_lt_zero _)
  | a :: A, p, 0, _, h => by
    have : a = p := by simpa [List.getD] using h
    subst this
    simp [List.idxOf_cons]
  | a :: A, p, j + 1, hj, h => by
    have := idx_le A p j (by simpa using hj) (by simpa [List.getD] using h)
    rw [List.idxOf_cons]
    cases (a == p) <;> simp <;> omega
/-- Whether one of the first k pairs is p. -/
def seenA (A : List Pr) (k : Nat) (p : Pr) : Bool := decide (p ∈ A.take k)
theorem seenA_get {A : List Pr} {k : Nat} {p : Pr} : seenA A k p = true ↔ ∃ j, j < k ∧ j < A.length ∧ A.getD j dPr = p := by
  unfold seenA
  rw [decide_eq_true_eq, List.mem_take_iff_getElem]
  constructor
  · rintro ⟨j, hj, e⟩
    exact ⟨j, by omega, by omega, by rw [← e]; simp [List.getD, show j < A.length by omega]⟩
  · rintro ⟨j, h1, h2, e⟩
    exact ⟨j, by omega, by rw [← e]; simp [List.getD, h2]⟩
theorem find_seen {A : List Pr} {k : Nat} (hk : k < A.length) : findA A (A.getD k dPr) = (k : Int) ↔ seenA A k (A.getD k dPr) = false := by
  constructor
  · intro h
    cases e : seenA A k (A.getD k dPr) with
    | false => rfl
    | true =>
      obtain ⟨j, h1, h2, h3⟩ := seenA_get.1 e
      have h4 := idx_le A _ j h2 h3
      have hm : A.getD k dPr ∈ A := by simp [List.getD, hk]
      unfold findA at h
      rw [if_pos hm] at h
      omega
  · intro h
    exact findA_hit hk rfl (fun j hj e => by
      have := seenA_get.2 ⟨j, hj, by omega, e⟩
      rw [h] at this; cases this)
theorem seenA_succ {A : List Pr} {k : Nat} (hk : k < A.length) (p : Pr) : (if p = A.getD k dPr then true else seenA A k p) = seenA A (k + 1) p := by
  by_cases e : p = A.getD k dPr
  · rw [if_pos e]
    exact (seenA_get.2 ⟨k, by omega, hk, e.symm⟩).symm
  · rw [if_neg e]
    rw [Bool.eq_iff_iff, seenA_get, seenA_get]
    constructor
    · rintro ⟨j, h1, h2⟩; exact ⟨j, by omega, h2⟩
    · rintro ⟨j, h1, h2, h3⟩
      by_cases ej : j = k
      · subst ej; exact absurd h3.symm e
      · exact ⟨j, by omega, h2, h3⟩

set_option maxRecDepth 100000 in
set_option maxHeartbeats 3200000 in
theorem greduced_any (vi va : Value) (I : List Int) (A : List Pr) (w : World) (HI : IsInts w vi I) (HA : IsPairs w va A) (h1 : I.length ≤ 4000000) (h2 : A.length ≤ 4000000) :
    Calls Tryz.prog 20 #[.agg #[vi, va]] w fun r w' => r = .returned (.bool (redB I A)) ∧ Below w.heap.size w w' := by
  have hb0 := below_alloc1 w (.cells #[vi, va] 25)
  have hsz : (w.alloc (.cells #[vi, va] 25)).heap.size = w.heap.size + 1 := by simp
  have hbx := boxA_new w vi va
  have HI1 := Lib.hid (HI.below hb0 (Nat.le_refl _))
  have HA1 := Lib.hid (HA.below hb0 (Nat.le_refl _))
  obtain ⟨ia, ic, rfl⟩ := HI.shape
  obtain ⟨aa, ac, rfl, _⟩ := HA.shape
  clear HI HA
  go_enter Tryz.func20, Tryz.ntmps20
  go_upto_region 1 with fail
  generalize World.alloc w _ = W at *
  have HB0 := Lib.hid hb0
  have HBX := Lib.hid hbx
  have HSZ := Lib.hid hsz
  obtain ⟨p0, p1⟩ := hbx
  clear hb0 hsz
  have HM := Lib.hid (gmay_any _ _ I A W HI1.out HA1.out h1 h2)
  by_cases cm : mayA I A = true
  · have HGOOD : Hid ((∀ j, j < A.length → okRed A j) → redB I A = true) := fun h => redB_good cm h
    have hmp := mayA_parts cm
    have HOB := Lib.hid (fun i => okPair_bd (k := 1 + I.length) (A := A) (i := i) hmp.2.2)
    have hnn : 1 + I.length + A.length ≤ 200000 := hmp.1
    rw [cm] at HM
    clear cm hmp
    go_upto_region 3 with (go_at_call 18; go_loud (refine HM.out.mono ?_; rintro r w1 ⟨rfl, hb⟩; have HB1 := Lib.hid hb; obtain ⟨r0, r1⟩ := HBX.out.below hb (by rw [HSZ.out]; omega); clear hb))
    clear p0 p1 HM
    have hmm := @run_makeMap Tryz.prog
    go_upto_region 4 with fail
    clear hmm
    have hmk := MapQ.made w1
    have HBM : Hid (Below W.heap.size W (w1.alloc (.map #[] 0))) := HB1.out.alloc HB1.out.size _
    have hsg : W.heap.size ≤ w1.heap.size := HB1.out.size
    obtain ⟨q0, q1⟩ := HBX.out.below HBM.out (by rw [HSZ.out]; omega)
    clear r0 r1
    generalize w1.alloc (.map #[] 0) = wm at *
    generalize w1.heap.size = bm at *
    have HMK := Lib.hid hmk
    have HSG := Lib.hid hsg
    clear hmk hsg
    go_wp2
    go_loopw [15] (fun s3 wr => ∃ k : Nat, k ≤ A.length ∧ s3 = .int .i64 k ∧ Below W.heap.size W wr ∧ MapQ wr bm k (seenA A k) ∧ Hid (∀ j, j < k → okRed A j)) (fun s3 _ => A.length - (intOf s3).toNat)
    case atStart => exact ⟨0, Nat.zero_le _, rfl, HBM.out, HMK.out.congr (fun p _ => by simp [seenA]), fun j hj => absurd hj (Nat.not_lt_zero _)⟩
    case round =>
      clear q0 q1
      obtain ⟨k, hk, rfl, hb, hmk, HN⟩ := hrel
      have HBR := Lib.hid hb
      have HMK := Lib.hid hmk
      obtain ⟨r0, r1⟩ := HBX.out.below hb (by rw [HSZ.out]; omega)
      clear hb hmk
      by_cases hlt : k < A.length
      · obtain ⟨b, off, rfl, hbl, hx0, hy0⟩ := HA1.out.at hlt
        have hx := (HBR.out.cell (p := ⟨b, off + k * 2, none⟩) hbl).trans hx0
        have hy := (HBR.out.cell (p := ⟨b, off + k * 2 + 1, none⟩) hbl).trans hy0
        obtain ⟨⟨u0, u1⟩, v0, v1⟩ := HOB.out k hlt
        have HBD : Hid (¬ okRed A k → redB I A = false) := fun h => redB_bad hlt h
        have HNX : Hid (okRed A k → ∀ j, j < k + 1 → okRed A j) := fun h j hj => by
          by_cases e : j = k
          · subst e; exact h
          · exact HN.out j (by omega)
        have HDF : Hid (okRed A k ↔ (2 ≤ (A.getD k dPr).1 ∧ (A.getD k dPr).1 < (A.getD k dPr).2 ∧ notE (A.getD k dPr).1 ≠ (A.getD k dPr).2 ∧ seenA A k (A.getD k dPr) = false)) := by
          show _ ↔ _
          unfold okRed
          rw [find_seen hlt]
        have HSS := Lib.hid (seenA_succ hlt)
        have HKL := Lib.hid hlt
        have hkb : k < 4000000 := by omega
        have hkz0 : (0 : Int) ≤ (k : Int) := by omega
        have hkz1 : (k : Int) < (A.length : Int) := by omega
        generalize A.getD k dPr = o at *
        obtain ⟨x, y⟩ := o
        simp only at hx hy u0 u1 v0 v1 HDF
        have hxb : x ≤ 4000000 := by omega
        have hyb : y ≤ 4000000 := by omega
        have HIN : Hid (In1 (x, y)) := ⟨⟨by show _ ≤ x; omega, by show x ≤ _; omega⟩, by show _ ≤ y; omega, by show y ≤ _; omega⟩
        have HNT := Lib.hid (fun X => opposite_any x X u0 hxb)
        have HLK : Hid (∀ X, Below wr.heap.size wr X → (Instr.lookup 124 (.map (some bm)) (.agg #[.int .i64 x, .int .i64 y]) false).run Tryz.prog X = .ok (.bool (seenA A k (x, y))) X) := fun X hX => (HMK.out.below hX (Nat.le_refl _)).look rfl HIN.out
        generalize okRed A k = OK at *
        generalize hsn : seenA A k (x, y) = sn at *
        have HSN := Lib.hid hsn
        generalize notE x = nx at *
        clear hx0 hy0 hlt HN hbl u1 v1 hsn
        go_upto_region 7 with fail
        have hnx : BoxA (World.alloc wr (.cells #[.int .i64 x, .int .i64 y] 115)) wr.heap.size (.int .i64 x) (.int .i64 y) := ⟨cell_fresh rfl, cell_fresh rfl⟩
        have hbx1 := (Below.refl wr.heap.size wr).alloc (Nat.le_refl _) (.cells #[.int .i64 x, .int .i64 y] 115)
        have HBX1 := Lib.hid hbx1
        have HBC := Lib.hid (HBR.out.trans (hbx1.mono HBR.out.size))
        clear hbx1 r0 r1 hx hy
        have HGG : Hid (wr.heap.size < (World.alloc wr (.cells #[.int .i64 x, .int .i64 y] 115)).heap.size) := by show _ < _; simp
        generalize World.alloc wr _ = X at *
        have HNX1 := Lib.hid hnx
        have hcn0 : ∀ n, (X.drewN n).cell? ⟨wr.heap.size, 0, none⟩ = some (.int .i64 x) := fun n => hnx.1
        have hcn1 : ∀ n, (X.drewN n).cell? ⟨wr.heap.size, 1, none⟩ = some (.int .i64 y) := fun n => hnx.2
        clear hnx
        generalize hgw : wr.heap.size = g at *
        have HGW := Lib.hid hgw
        clear hgw
        go_quiet (fail)
        have HQ := Lib.hid (show Quiet X (X.drewN nq) from ⟨nq, rfl⟩)
        clear hcn0 hcn1
        generalize X.drewN nq = wq at *
        have HBQ : Hid (Below W.heap.size W wq) := HBC.out.trans (HQ.out.below _)
        have HMQ : Hid (Below g wr wq) := HBX1.out.trans (HQ.out.below _)
        obtain ⟨r0, r1⟩ := HBX.out.below HBQ.out (by rw [HSZ.out]; omega)
        have n0 := (HQ.out.cell _).trans HNX1.out.1
        have n1 := (HQ.out.cell _).trans HNX1.out.2
        by_cases c1 : x < 2
        · have d1 : decide (x < 2) = true := decide_eq_true c1
          have HF : Hid (redB I A = false) := HBD.out (fun h => by have h := HDF.out.1 h; omega)
          clear HBD HNX HDF
          go_wp2_with fail
          go_ret
          exact ⟨ret_bool HF.out.symm, HB0.out.trans (HBQ.out.mono HB0.out.size)⟩
        · have d1 : decide (x < 2) = false := decide_eq_false c1
          by_cases c2 : y ≤ x
          · have d2 : decide (y ≤ x) = true := decide_eq_true c2
            have HF : Hid (redB I A = false) := HBD.out (fun h => by have h := HDF.out.1 h; omega)
            clear HBD HNX HDF
            go_wp2_with fail
            go_ret
            exact ⟨ret_bool HF.out.symm, HB0.out.trans (HBQ.out.mono HB0.out.size)⟩
          · have d2 : decide (y ≤ x) = false := decide_eq_false c2
            by_cases c3 : nx = y
            · subst c3
              have HF : Hid (redB I A = false) := HBD.out (fun h => by have h := HDF.out.1 h; exact h.2.2.1 rfl)
              clear HBD HNX HDF
              go_wp2_with ((go_at_call 70; go_loud (refine (HNT.out _).mono ?_; rintro r w9 ⟨rfl, rfl⟩)))
              go_ret
              exact ⟨ret_bool HF.out.symm, HB0.out.trans (HBQ.out.mono HB0.out.size)⟩
            · have d3 : (y == nx) = false := by simpa using fun e => c3 e.symm
              have hlk := HLK.out wq HMQ.out
              cases sn with
              | true =>
                have HF : Hid (redB I A = false) := HBD.out (fun h => by have h := (HDF.out.1 h).2.2.2; cases h)
                clear HBD HNX HDF c3
                go_wp2_with ((go_at_call 70; go_loud (refine (HNT.out _).mono ?_; rintro r w9 ⟨rfl, rfl⟩)))
                go_ret
                exact ⟨ret_bool HF.out.symm, HB0.out.trans (HBQ.out.mono HB0.out.size)⟩
              | false =>
                have HX := Lib.hid (HNX.out (HDF.out.2 ⟨by omega, by omega, c3, rfl⟩))
                clear HBD HNX HDF c3
                obtain ⟨w7, hrun, hm7, hk7⟩ := (HMK.out.below HMQ.out (Nat.le_of_eq HGW.out)).put (by unfold maxLen; omega) HIN.out true
                have HM7 := Lib.hid hm7
                have HK7 := Lib.hid hk7
                clear hm7 hk7
                go_wp2_with ((go_at_call 70; go_loud (refine (HNT.out _).mono ?_; rintro r w9 ⟨rfl, rfl⟩)))
                go_roundw
                case rel => exact ⟨k + 1, HKL.out, by go_num, HBQ.out.trans ⟨HK7.out.os, HK7.out.tape, HK7.out.output, HK7.out.size, fun j hj => HK7.out.block j (by have := HBQ.out.size; omega) (fun e => by have := HSG.out; omega)⟩, HM7.out.congr (fun p _ => HSS.out p), HX.out⟩
                case measure => have := HKL.out; simp [intOf]; omega
      · obtain rfl : k = A.length := by omega
        have HF := Lib.hid (HGOOD.out HN.out)
        go_wp2
        go_ret
        exact ⟨ret_bool HF.out.symm, HB0.out.trans (HBR.out.mono HB0.out.size)⟩
  · have cm : mayA I A = false := by simpa using cm
    have HE : Hid (redB I A = false) := by show _ = _; unfold redB; rw [cm]; rfl
    rw [cm] at HM
    clear cm
    go_wp2_with (go_at_call 18; go_loud (refine HM.out.mono ?_; rintro r w1 ⟨rfl, hb⟩; have HB1 := Lib.hid hb; clear hb))
    go_ret
    exact ⟨ret_bool HE.out.symm, HB0.out.trans (HB1.out.mono HB0.out.size)⟩
end Go.Proofs.YtfghjfljomcldaaGreat

/- Pure: the net of an edge; the graph of that net is the cone again. -/
namespace Go.Proofs.YtfghjfljomcldaaGreat
set_option linter.unusedVariables false
set_option linter.unusedSimpArgs false

/-- The literal of an edge, when the nodes have these names. -/
def litE (nm : List Int) (e : Int) : Int := if e % 2 = 1 then -(nm.getD (e / 2).toNat 0) else nm.getD (e / 2).toNat 0
def gateA (nm vs : List Int) (A : List Pr) (i : Nat) : Gt := (vs.getD i 0, 1, [litE nm (A.getD i dPr).1, litE nm (A.getD i dPr).2])
def gatesA (nm vs : List Int) (A : List Pr) (n : Nat) : List Gt := (List.range n).map (gateA nm vs A)
theorem gatesA_succ (nm vs : List Int) (A : List Pr) (n : Nat) : gatesA nm vs A (n + 1) = gatesA nm vs A n ++ [gateA nm vs A n] := by unfold gatesA; rw [List.range_succ, List.map_append]; rfl
def constP (S : List Int) (out : Int) : List Gt × Int := ([((unusedL S 1).getD 0 0, 1, [])], if out = 0 then -((unusedL S 1).getD 0 0) else (unusedL S 1).getD 0 0)
/-- The net of an edge of a graph. -/
def toNetC (I : List Int) (A : List Pr) (out : Int) (P : List Blk) : (List Blk × List Gt × Int) × Int :=
  if out < 2 then ((P, (constP (netI P) out).1, (constP (netI P) out).2), 0)
  else if lacksA (netI P) I A out = true then (([], [], 0), 6)
  else if (unusedL (netI P) A.length).length < A.length then (([], [], 0), 3)
  else ((P, gatesA ([0] ++ I ++ unusedL (netI P) A.length) (unusedL (netI P) A.length) A A.length, litE ([0] ++ I ++ unusedL (netI P) A.length) out), 0)
def toNetR (I : List Int) (A : List Pr) (e : Int) (P : List Blk) : (List Blk × List Gt × Int) × Int :=
  if hasA I A [e] = true ∧ mayPre P = true then toNetC (coneR I A [e]).1.1 (coneR I A [e]).1.2 ((coneR I A [e]).2.1.getD 0 0) P else (([], [], 0), 2)
end Go.Proofs.YtfghjfljomcldaaGreat

/- Pure: the graph of the net of an edge is its cone. -/
namespace Go.Proofs.YtfghjfljomcldaaGreat
set_option linter.unusedVariables false
set_option linter.unusedSimpArgs false

def litsN (gs : List Gt) : Nat := (gs.map (fun g => g.2.2.length)).sum
theorem named_snocT : ∀ (gs : List Gt) (S : List Int) (t : Nat) (R : List Int) (g : Gt), namedL S t gs = some R → gOk R (t + litsN gs) g = true → namedL S t (gs ++ [g]) = some (R ++ [g.1])
  | [], S, t, R, g, h, hg => by
    unfold namedL at h
    cases h
    show namedL S t [g] = _
    unfold namedL litsN at *
    simp only [List.map_nil, List.sum_nil, Nat.add_zero] at hg
    rw [if_pos hg]
    rfl
  | x :: r, S, t, R, g, h, hg => by
    unfold namedL at h
    show namedL S t (x :: (r ++ [g])) = _
    unfold namedL
    split at h
    · rename_i hx
      rw [if_pos hx]
      refine named_snocT r _ _ R g h ?_
      unfold litsN at hg ⊢
      rw [List.map_cons, List.sum_cons] at hg
      rw [Nat.add_assoc]
      exact hg
    · cases h
theorem gatesA_lits (nm vs : List Int) (A : List Pr) : ∀ n, litsN (gatesA nm vs A n) = 2 * n
  | 0 => rfl
  | n + 1 => by
    have h := gatesA_lits nm vs A n
    rw [gatesA_succ]
    unfold litsN at h ⊢
    rw [List.map_append, List.sum_append, h]
    show 2 * n + (2 + 0) = _
    omega
theorem nodup_inj {l : List Int} (h : l.Nodup) {i j : Nat} {hi : i < l.length} {hj : j < l.length} (e : l[i] = l[j]) : i = j := by
  rcases Nat.lt_trichotomy i j with hl | rfl | hg
  · exact absurd e (List.pairwise_iff_getElem.1 h i j hi hj hl)
  · rfl
  · exact absurd e.symm (List.pairwise_iff_getElem.1 h j i hj hi hg)
/-- The names of the nodes of a graph. -/
structure NamesOk (S I vs : List Int) (n : Nat) : Prop where
  len : vs.length = n
  nd : vs.Nodup
  bd : ∀ v ∈ vs, 1 ≤ v ∧ v ≤ 65536
  out : ∀ v ∈ vs, v ∉ S
  same : ∀ v, v ∈ I ↔ v ∈ S
  lt : I.Pairwise (· < ·)
  ib : ∀ v ∈ I, 1 ≤ v ∧ v ≤ 65536
theorem unused_names {P : List Blk} {n : Nat} (hp : mayP P = true) (hn : n ≤ 64512) : NamesOk (flatB P) (netI P) (unusedL (netI P) n) n := by
  have hnums := mayP_nums hp
  have hI : (netI P).length ≤ 1024 := by rw [netI_len]; exact hnums.2.2
  have hm := freeUp_many (netI P) 65536
  have hlen : (unusedL (netI P) n).length = n := by unfold unusedL; rw [List.length_take]; omega
  have hs : (unusedL (netI P) n).Sublist (freeUp (netI P) 65536) := List.take_sublist _ _
  have hnd : (freeUp (netI P) 65536).Nodup := by
    unfold freeUp
    refine List.Pairwise.filter _ ?_
    refine List.pairwise_map.2 (List.nodup_range.imp ?_)
    intro a b h e
    exact h (by omega)
  refine ⟨hlen, hs.nodup hnd, fun v hv => freeUp_bd (Nat.le_refl _) v (hs.mem hv), fun v hv h => freeUp_mem (hs.mem hv) (ascI_mem.2 h), fun v => ascI_mem, netI_lt hp, fun v hv => hnums.2.1 v (ascI_mem.1 hv)⟩
theorem nm_at {S I vs : List Int} {n : Nat} (h : NamesOk S I vs n) {i c : Nat} (h1 : 1 ≤ c) (h2 : c < 1 + I.length + i) (hi : i ≤ n) :
    (∃ j, j < I.length ∧ c = 1 + j ∧ ([0] ++ I ++ vs).getD c 0 = I.getD j 0 ∧ I.getD j 0 ∈ I) ∨ (∃ j, j < i ∧ c = 1 + I.length + j ∧ ([0] ++ I ++ vs).getD c 0 = vs.getD j 0 ∧ vs.getD j 0 ∈ vs.take i) := by
  have hl := h.len
  by_cases e : c < 1 + I.length
  · refine .inl ⟨c - 1, by omega, by omega, ?_, getD_mem (by omega)⟩
    obtain ⟨k, rfl⟩ : ∃ k, c = k + 1 := ⟨c - 1, by omega⟩
    have hk : k < I.length := by omega
    simp [List.getD, List.getElem?_append_left hk]
  · refine .inr ⟨c - (1 + I.length), by omega, by omega, ?_, ?_⟩
    · obtain ⟨k, rfl⟩ : ∃ k, c = (I.length + k) + 1 := ⟨c - 1 - I.length, by omega⟩
      rw [show I.length + k + 1 - (1 + I.length) = k from by omega]
      show ((I ++ vs)[I.length + k]?).getD 0 = (vs[k]?).getD 0
      rw [List.getElem?_append_right (by omega), show I.length + k - I.length = k from by omega]
    · have hj : c - (1 + I.length) < vs.length := by omega
      rw [show vs.getD (c - (1 + I.length)) 0 = vs[c - (1 + I.length)] from by simp [List.getD, hj]]
      exact List.mem_take_iff_getElem.2 ⟨_, by omega, rfl⟩
/-- The edges that the names have when i gates are made. -/
structure FAt (I vs : List Int) (i : Nat) (f : Int → Option Int) : Prop where
  ins : ∀ j, j < I.length → f (I.getD j 0) = some (2 * ((1 + j : Nat) : Int))
  ands : ∀ j, j < i → f (vs.getD j 0) = some (2 * ((1 + I.length + j : Nat) : Int))
theorem lit_edge {S I vs : List Int} {n i : Nat} {f : Int → Option Int} (h : NamesOk S I vs n) (hf : FAt I vs i f) (hi : i ≤ n) {e : Int} (h1 : 2 ≤ e) (h2 : e / 2 < ((1 + I.length + i : Nat) : Int)) :
    edgeOfA f (litE ([0] ++ I ++ vs) e) = e ∧ varC (litE ([0] ++ I ++ vs) e) ∈ S ++ vs.take i := by
  obtain ⟨v, hv, hv1, hfv, hvm⟩ : ∃ v, ([0] ++ I ++ vs).getD (e / 2).toNat 0 = v ∧ 1 ≤ v ∧ f v = some (2 * (e / 2)) ∧ v ∈ S ++ vs.take i := by
    rcases nm_at h (c := (e / 2).toNat) (by omega) (by omega) hi with ⟨j, hj, hc, hg, hm⟩ | ⟨j, hj, hc, hg, hm⟩
    · exact ⟨_, hg, (h.ib _ hm).1, by rw [hf.ins j hj]; congr 1; omega, List.mem_append_left _ ((h.same _).1 hm)⟩
    · exact ⟨_, hg, (h.bd _ (List.mem_of_mem_take hm)).1, by rw [hf.ands j hj]; congr 1; omega, List.mem_append_right _ hm⟩
  unfold litE
  rw [hv]
  by_cases c : e % 2 = 1
  · rw [if_pos c]
    have hn : -v < 0 := by omega
    constructor
    · unfold edgeOfA
      rw [if_pos hn, Int.neg_neg, hfv, Option.getD_some]
      unfold notE
      rw [if_pos (by omega)]
      omega
    · have hb : v ≤ 65536 := by
        rcases List.mem_append.1 hvm with h3 | h3
        · exact (h.ib _ ((h.same _).2 h3)).2
        · exact (h.bd _ (List.mem_of_mem_take h3)).2
      have : varC (-v) = v := by unfold varC; rw [if_pos hn, if_neg (by omega)]; omega
      rw [this]
      exact hvm
  · rw [if_neg c]
    constructor
    · unfold edgeOfA
      rw [if_neg (by omega), hfv, Option.getD_some]
      omega
    · have : varC v = v := by unfold varC; rw [if_neg (by omega)]
      rw [this]
      exact hvm
theorem gate_and {k : Nat} {s : List Pr} {x y : Int} (h1 : 2 ≤ x) (h2 : x < y) (h3 : notE x ≠ y) (h4 : (x, y) ∉ s) (h5 : k + s.length < 200000) : gateMk k (s, false) 1 [x, y] = (2 * ((k + s.length : Nat) : Int), (s ++ [(x, y)], false)) := by
  have hone : conjA k (s, false) 1 x = (x, (s, false)) := by
    unfold conjA
    rw [Int.min_eq_left (by omega), Int.max_eq_right (by omega)]
    unfold conjO
    rw [if_neg (fun h => h.elim (fun e => by omega) (fun e => by have : notE 1 = 0 := rfl; omega)), if_pos (.inl rfl)]
  show allA k [x, y] (s, false) 1 = _
  show conjA k (conjA k (s, false) 1 x).2 (conjA k (s, false) 1 x).1 y = _
  rw [hone]
  exact conj_new h1 h2 h3 h4 h5
theorem ands_fold {P : List Blk} {A : List Pr} {vs : List Int} (hm : mayA (netI P) A = true) (hr : RedA A) (hn : NamesOk (flatB P) (netI P) vs A.length) (hsz : 2 * A.length ≤ 200000) :
    ∀ i, i ≤ A.length → ((netQ (netI P) (gatesA ([0] ++ netI P ++ vs) vs A i)).2 = (A.take i, false) ∧ FAt (netI P) vs i (netQ (netI P) (gatesA ([0] ++ netI P ++ vs) vs A i)).1 ∧ namedL (flatB P) 0 (gatesA ([0] ++ netI P ++ vs) vs A i) = some (flatB P ++ vs.take i)) := by
  obtain ⟨hroom, hI, hA⟩ := mayA_parts hm
  intro i
  induction i with
  | zero =>
    intro _
    refine ⟨rfl, ⟨fun j hj => ?_, fun j hj => absurd hj (Nat.not_lt_zero _)⟩, ?_⟩
    · show inFold (netI P) (netI P) _ = _
      unfold inFold
      rw [inFold_at, if_pos (by simp [List.getD, hj]), placeA_at hn.lt hj]
      congr 1
      omega
    · show namedL (flatB P) 0 [] = _
      unfold namedL
      simp
  | succ i ih =>
    intro hi
    obtain ⟨h1, h2, h3⟩ := ih (by omega)
    have hil : i < A.length := by omega
    obtain ⟨r1, r2, r3, r4⟩ := hr i hil
    have hp := okPair_bd hA hil
    obtain ⟨e1, m1⟩ := lit_edge hn h2 (by omega) (e := (A.getD i dPr).1) r1 hp.1.2
    obtain ⟨e2, m2⟩ := lit_edge hn h2 (by omega) (e := (A.getD i dPr).2) (by omega) hp.2.2
    have hvi : i < vs.length := by rw [hn.len]; exact hil
    have hvm : vs.getD i 0 ∈ vs := by simp [List.getD, hvi]
    have hvat : vs.getD i 0 = vs[i] := by simp [List.getD, hvi]
    have hnin : ((A.getD i dPr).1, (A.getD i dPr).2) ∉ A.take i := by
      intro hin
      obtain ⟨q, hq, hqe⟩ := List.mem_take_iff_getElem.1 hin
      have hql : q < A.length := by omega
      have hqd : A.getD q dPr = A.getD i dPr := by
        rw [show A.getD q dPr = A[q] from by simp [List.getD, hql], hqe]
      have f1 := (hr q hql).2.2.2
      rw [hqd, r4] at f1
      omega
    have hg : gateMk (1 + (netI P).length) (netQ (netI P) (gatesA ([0] ++ netI P ++ vs) vs A i)).2 1 [edgeOfA (netQ (netI P) (gatesA ([0] ++ netI P ++ vs) vs A i)).1 (litE ([0] ++ netI P ++ vs) (A.getD i dPr).1), edgeOfA (netQ (netI P) (gatesA ([0] ++ netI P ++ vs) vs A i)).1 (litE ([0] ++ netI P ++ vs) (A.getD i dPr).2)]
        = (2 * ((1 + (netI P).length + i : Nat) : Int), (A.take (i + 1), false)) := by
      rw [h1, e1, e2, gate_and r1 r2 r3 hnin (by rw [List.length_take]; omega), List.length_take, Nat.min_eq_left (by omega), take_pr hil]
    have hq : netQ (netI P) (gatesA ([0] ++ netI P ++ vs) vs A (i + 1)) = gStepN (1 + (netI P).length) (netQ (netI P) (gatesA ([0] ++ netI P ++ vs) vs A i)) (gateA ([0] ++ netI P ++ vs) vs A i) := by
      rw [gatesA_succ]
      unfold netQ
      rw [List.foldl_append]
      rfl
    have hq2 : netQ (netI P) (gatesA ([0] ++ netI P ++ vs) vs A (i + 1)) = (updM (netQ (netI P) (gatesA ([0] ++ netI P ++ vs) vs A i)).1 (vs.getD i 0) (2 * ((1 + (netI P).length + i : Nat) : Int)), (A.take (i + 1), false)) := by
      rw [hq]
      unfold gStepN gateA
      show (updM _ _ (gateMk _ _ 1 [_, _]).1, (gateMk _ _ 1 [_, _]).2) = _
      rw [hg]
    refine ⟨by rw [hq2], ?_, ?_⟩
    · rw [hq2]
      refine ⟨fun j hj => ?_, fun j hj => ?_⟩
      · show updM _ _ _ _ = _
        unfold updM
        have hjm : (netI P).getD j 0 ∈ netI P := by simp [List.getD, hj]
        rw [if_neg (show ¬ ((netI P).getD j 0 = vs.getD i 0) from fun e => hn.out _ hvm ((hn.same _).1 (by rw [← e]; exact hjm)))]
        exact h2.ins j hj
      · show updM _ _ _ _ = _
        unfold updM
        by_cases e : j = i
        · subst e
          rw [if_pos rfl]
        · have hjl : j < vs.length := by omega
          rw [if_neg (fun h => by
            rw [hvat, show vs.getD j 0 = vs[j] from by simp [List.getD, hjl]] at h
            exact e (nodup_inj hn.nd h))]
          exact h2.ands j (by omega)
    · rw [gatesA_succ, ints_take_succ hvi, ← List.append_assoc]
      refine named_snocT _ _ _ _ (gateA ([0] ++ netI P ++ vs) vs A i) h3 ?_
      rw [gatesA_lits]
      unfold gOk gateA
      simp only [Bool.and_eq_true, decide_eq_true_eq, List.all_eq_true]
      refine ⟨by show 0 + 2 * i + 2 ≤ _; omega, rfl, fun x hx => ?_, ?_⟩
      · simp only [List.mem_cons, List.not_mem_nil, or_false] at hx
        rcases hx with rfl | rfl
        · exact m1
        · exact m2
      · unfold entB
        rw [decide_eq_true_eq]
        refine ⟨(hn.bd _ hvm).1, (hn.bd _ hvm).2, fun h => ?_⟩
        rcases List.mem_append.1 h with h | h
        · exact hn.out _ hvm h
        · obtain ⟨q, hq, hqe⟩ := List.mem_take_iff_getElem.1 h
          rw [hvat] at hqe
          have := nodup_inj hn.nd hqe
          omega
/-- The net of an edge that reaches all of its graph: valid, and its graph is this one. -/
theorem to_round {P : List Blk} {A : List Pr} {x : Int} (hp : mayP P = true) (hm : mayA (netI P) A = true) (hr : RedA A) (hx : edgesB [x] (1 + (netI P).length + A.length) = true) (hall : ∀ j, j < A.length → RchN (1 + (netI P).length) A [x] (1 + (netI P).length + j)) (hsz : A.length ≤ 64512) :
    ∃ gs o, toNetR (netI P) A x P = ((P, gs, o), 0) ∧ mayN P gs o = true ∧ netR P gs o = ((netI P, A), x, 0) := by
  obtain ⟨hroom, hI, hA⟩ := mayA_parts hm
  have hnums := mayP_nums hp
  have hxe := edgesB_true.1 hx x (by simp)
  have hh : hasA (netI P) A [x] = true := by unfold hasA; rw [hm, hx]; rfl
  have hcs := cone_same hm hr hx hall
  have hpre : mayPre P = true := by
    unfold mayPre
    by_cases h0 : P.length = 0
    · rw [decide_eq_true h0]; rfl
    · have hb : blkOk P 0 := by unfold mayP at hp; exact (of_decide_eq_true hp).1 0 (by omega)
      rw [Bool.or_eq_true]
      refine .inr ?_
      rw [Bool.and_eq_true]
      refine ⟨decide_eq_true hb.1, ?_⟩
      have hl0 : 0 < (P.getD 0 dB).2.length := List.length_pos_iff.2 hb.1
      have hin : (P.getD 0 dB).2.getD 0 0 ∈ flatB P := by
        have h := flat_prefix (d := dB) (p := P) (k := 0) (by omega) (P.getD 0 dB).2.length
        rw [List.take_length] at h
        refine h.subset (List.mem_append_right _ ?_)
        exact getD_mem hl0
      have hv := hnums.2.1 _ hin
      unfold mayN namedN
      rw [if_pos hp]
      unfold namedL
      show decide (varC _ ∈ flatB P) = true
      rw [decide_eq_true_eq]
      have : varC ((P.getD 0 dB).2.getD 0 0) = (P.getD 0 dB).2.getD 0 0 := by unfold varC; rw [if_neg (by omega)]
      rw [this]
      exact hin
  have hto : toNetR (netI P) A x P = toNetC (netI P) A x P := by
    unfold toNetR
    rw [if_pos ⟨hh, hpre⟩, hcs]
    rfl
  rw [hto]
  unfold toNetC
  by_cases c : x < 2
  · rw [if_pos c]
    have hA0 : A = [] := by
      have hno : ∀ n, RchN (1 + (netI P).length) A [x] n → n = 0 := by
        intro n h
        induction h with
        | edge he => rw [List.mem_singleton] at he; subst he; omega
        | fst hi _ ih => omega
        | snd hi _ ih => omega
      rcases Nat.eq_zero_or_pos A.length with h | h
      · exact List.length_eq_zero_iff.1 h
      · have := hno _ (hall 0 h); omega
    subst hA0
    have hun := unused_names (n := 1) hp (by omega)
    have hu1 : 0 < (unusedL (netI P) 1).length := by rw [hun.len]; omega
    have hum : (unusedL (netI P) 1).getD 0 0 ∈ unusedL (netI P) 1 := getD_mem hu1
    generalize hue : (unusedL (netI P) 1).getD 0 0 = u at *
    have hub := hun.bd _ hum
    have huo := hun.out _ hum
    have hnl : namedL (flatB P) 0 [(u, 1, [])] = some (flatB P ++ [u]) := by
      unfold namedL
      rw [if_pos (by unfold gOk entB; simp [hub.1, hub.2, huo]; rfl)]
      rfl
    have hnq : netQ (netI P) [(u, 1, [])] = (updM (inFold (netI P) (netI P)) u 1, ([], false)) := rfl
    have hmn : ∀ o : Int, varC o = u → mayN P [(u, 1, [])] o = true := fun o ho => by
      unfold mayN namedN
      rw [if_pos hp, hnl]
      show decide _ = true
      rw [ho, decide_eq_true_eq]
      simp
    have hnr : ∀ o : Int, varC o = u → edgeOfA (updM (inFold (netI P) (netI P)) u 1) o = x → netR P [(u, 1, [])] o = ((netI P, []), x, 0) := fun o ho he => by
      unfold netR
      rw [if_pos (hmn o ho), hnq, if_neg (by simp)]
      show ((coneR (netI P) [] [edgeOfA (updM (inFold (netI P) (netI P)) u 1) o]).1, (coneR (netI P) [] [edgeOfA (updM (inFold (netI P) (netI P)) u 1) o]).2.1.getD 0 0, 0) = _
      rw [he, hcs]
      rfl
    have hup : updM (inFold (netI P) (netI P)) u 1 u = some 1 := by unfold updM; rw [if_pos rfl]
    unfold constP
    rw [hue]
    by_cases c0 : x = 0
    · have ho : varC (-u) = u := by unfold varC; rw [if_pos (by omega), if_neg (by omega)]; omega
      refine ⟨_, _, by rw [if_pos c0], hmn _ ho, hnr _ ho ?_⟩
      unfold edgeOfA
      rw [if_pos (by omega), Int.neg_neg, hup, c0]
      rfl
    · have ho : varC u = u := by unfold varC; rw [if_neg (by omega)]
      refine ⟨_, _, by rw [if_neg c0], hmn _ ho, hnr _ ho ?_⟩
      unfold edgeOfA
      rw [if_neg (by omega), hup]
      show (1 : Int) = x
      omega
  · rw [if_neg c]
    have hun := unused_names (n := A.length) hp hsz
    have hlk : lacksA (netI P) (netI P) A x = false := by
      unfold lacksA
      rw [List.any_eq_false]
      intro n hn
      obtain ⟨i, rfl, i1, i2, _⟩ := onN_mem.1 hn
      unfold lackP
      rw [show ((i : Int)).toNat - 1 = i - 1 from by omega, placeA_at (netI_lt hp) (by omega)]
      simp
      omega
    rw [if_neg (by rw [hlk]; simp), if_neg (by rw [hun.len]; omega)]
    obtain ⟨f1, f2, f3⟩ := ands_fold hm hr hun (by omega) A.length (Nat.le_refl _)
    obtain ⟨l1, l2⟩ := lit_edge hun f2 (Nat.le_refl _) (e := x) (by omega) hxe.2
    have hmn : mayN P (gatesA ([0] ++ netI P ++ unusedL (netI P) A.length) (unusedL (netI P) A.length) A A.length) (litE ([0] ++ netI P ++ unusedL (netI P) A.length) x) = true := by
      unfold mayN namedN
      rw [if_pos hp, f3]
      exact decide_eq_true l2
    refine ⟨_, _, rfl, hmn, ?_⟩
    unfold netR
    rw [if_pos hmn, f1, List.take_length, if_neg (by simp), l1, hcs]
    rfl
end Go.Proofs.YtfghjfljomcldaaGreat

/- Pure: how much graphs grow, and that nothing is full where there is room; values of cones and restrictions. -/
namespace Go.Proofs.YtfghjfljomcldaaGreat
set_option linter.unusedVariables false
set_option linter.unusedSimpArgs false

/-- It grows by c at most, and finds room where there is so much. -/
structure Gr (k : Nat) (s : Mq) (r : Mq) (c : Nat) : Prop where
  len : r.1.length ≤ s.1.length + c
  full : k + s.1.length + c ≤ 200000 → r.2 = s.2
theorem Gr.trans {k : Nat} {s r q : Mq} {c d : Nat} (h : Gr k s r c) (g : Gr k r q d) : Gr k s q (c + d) :=
  ⟨by have := h.len; have := g.len; omega, fun e => by rw [g.full (by have := h.len; omega), h.full (by omega)]⟩
theorem Gr.mono {k : Nat} {s r : Mq} {c d : Nat} (h : Gr k s r c) (hd : c ≤ d) : Gr k s r d := ⟨by have := h.len; omega, fun e => h.full (by omega)⟩
theorem Gr.refl (k : Nat) (s : Mq) : Gr k s s 0 := ⟨Nat.le_refl _, fun _ => rfl⟩
theorem conjA_gr (k : Nat) (s : Mq) (a b : Int) : Gr k s (conjA k s a b).2 1 := by
  unfold conjA conjO
  split
  · exact (Gr.refl k s).mono (by omega)
  · split
    · exact (Gr.refl k s).mono (by omega)
    · split
      · exact (Gr.refl k s).mono (by omega)
      · split
        · exact ⟨Nat.le_add_right _ _, fun e => by omega⟩
        · exact ⟨by simp, fun _ => rfl⟩
theorem disjA_gr (k : Nat) (s : Mq) (a b : Int) : Gr k s (disjA k s a b).2 1 := conjA_gr k s _ _
theorem exclA_gr (k : Nat) (s : Mq) (a b : Int) : Gr k s (exclA k s a b).2 3 := ((conjA_gr k s _ _).trans (conjA_gr k _ _ _)).trans (disjA_gr k _ _ _)
theorem iteA_gr (k : Nat) (s : Mq) (c a b : Int) : Gr k s (iteA k s c a b).2 3 := ((conjA_gr k s _ _).trans (conjA_gr k _ _ _)).trans (disjA_gr k _ _ _)
theorem allA_gr (k : Nat) : ∀ (l : List Int) (s : Mq) (x : Int), Gr k s (allA k l s x).2 l.length
  | [], s, x => Gr.refl k s
  | e :: r, s, x => by
    show Gr k s (allA k r (conjA k s x e).2 (conjA k s x e).1).2 _
    exact ((conjA_gr k s x e).trans (allA_gr k r _ _)).mono (by rw [List.length_cons]; omega)
theorem anyA_gr (k : Nat) (l : List Int) (s : Mq) : Gr k s (anyA k l s).2 l.length := by
  have := allA_gr k (l.map notE) s 1
  rw [List.length_map] at this
  exact this
theorem gateMk_gr (k : Nat) (s : Mq) (kd : Int) (l : List Int) : Gr k s (gateMk k s kd l).2 (3 + l.length) := by
  unfold gateMk
  split
  · exact (allA_gr k l s 1).mono (by omega)
  · split
    · exact (anyA_gr k l s).mono (by omega)
    · split
      · exact (exclA_gr k s _ _).mono (by omega)
      · exact (iteA_gr k s _ _ _).mono (by omega)
theorem netFold_gr (k : Nat) : ∀ (gs : List Gt) (q : (Int → Option Int) × Mq), Gr k q.2 (gs.foldl (gStepN k) q).2 (3 * gs.length + litsN gs)
  | [], q => (Gr.refl k q.2).mono (Nat.zero_le _)
  | g :: r, q => by
    rw [List.foldl_cons]
    have h1 : Gr k q.2 (gStepN k q g).2 (3 + g.2.2.length) := by
      have := gateMk_gr k q.2 g.2.1 (g.2.2.map (edgeOfA q.1))
      rw [List.length_map] at this
      exact this
    refine (h1.trans (netFold_gr k r _)).mono ?_
    unfold litsN
    rw [List.map_cons, List.sum_cons, List.length_cons]
    omega
theorem cpAll_gr (k kg : Nat) (A : List Pr) : ∀ (ns : List Int) (st : List Int × Mq), Gr k st.2 (ns.foldl (cpAnd kg A k) st).2 ns.length
  | [], st => Gr.refl k st.2
  | y :: r, st => by
    rw [List.foldl_cons]
    exact ((conjA_gr k st.2 _ _).trans (cpAll_gr k kg A r (cpAnd kg A k st y))).mono (by rw [List.length_cons]; omega)
theorem copyA_gr (k : Nat) (I : List Int) (A : List Pr) (img : Int → Int) (l : List Int) (s : Mq) : Gr k s (copyA k I A img l s).2 A.length :=
  (cpAll_gr k (1 + I.length) A _ (cpIns I A img l, s)).mono (onN_len _ _ _)
/-- The values of a restricted graph. -/
theorem rest_val {I : List Int} {A : List Pr} {l a : List Int} (h : hasA I A l = true) (h0 h1 : Int → Bool) (hv : ∀ v ∈ I, h1 v = match fixF a v with
      | some y => decide (y = 1)
      | none => h0 v) :
    ∀ j, j < l.length → edgeV (runN (baseV (restI a I) h0) (restC I A l a).2.1) ((restC I A l a).1.getD j 0) = edgeV (runN (baseV I h1) A) (l.getD j 0) := by
  obtain ⟨hm, hA, hl⟩ := hasA_parts h
  obtain ⟨hroom, hI, _⟩ := mayA_parts hm
  have hlen : (restI a I).length ≤ I.length := List.length_filter_le _ _
  have hb := baseV_len (restI a I) h0
  have hb0 := baseV_len I h1
  have hlt := (insB_lt hI).2
  have hgr := copyA_gr (1 + (restI a I).length) I A (restImg a I) l ([], false)
  have hlt2 : (restI a I).Pairwise (· < ·) := hlt.sublist List.filter_sublist
  have hmain := copyA_val (b := baseV (restI a I) h0) (b0 := baseV I h1) (I := I) (A := A) (img := restImg a I) (l := l) (s := ([], false)) (baseV_zero _ _) (by rw [hb]; omega) (baseV_zero _ _) hb0
    ⟨rfl, by rw [hb]; simp; omega⟩ rfl hA hl (fun v _ => by rw [hb]; simpa using restImg_isE a I v) (fun j hj _ => ?_) (by rw [hb]; exact hgr.full (by simp; omega))
  · rw [hb] at hmain
    exact hmain
  · show edgeV (baseV (restI a I) h0) (restImg a I (I.getD j 0)) = _
    have hmem : I.getD j 0 ∈ I := by simp [List.getD, hj]
    rw [baseV_at hj, hv _ hmem]
    unfold restImg orA
    cases e : fixF a (I.getD j 0) with
    | some y =>
      rw [Option.getD_some]
      have hz := edgeV_zero (A := []) (baseV_zero (restI a I) h0) (by rw [hb]; omega)
      rcases fixF_01 a _ y e with rfl | rfl
      · exact hz.1
      · exact hz.2
    | none =>
      rw [Option.getD_none]
      have hin : I.getD j 0 ∈ restI a I := by
        unfold restI
        rw [List.mem_filter]
        exact ⟨hmem, by rw [e]; rfl⟩
      obtain ⟨q, hq, hqe⟩ := List.mem_iff_getElem.1 hin
      have hg : (restI a I).getD q 0 = I.getD j 0 := by rw [← hqe]; simp [List.getD, hq]
      rw [← hg]
      show edgeV _ (2 * placeA (restI a I) ((restI a I).getD q 0)) = h0 ((restI a I).getD q 0)
      rw [placeA_at hlt2 hq, show 2 * ((q : Int) + 1) = 2 * ((1 + q : Nat) : Int) from by omega, edgeV_even, baseV_at hq]
theorem cone_val {I : List Int} {A : List Pr} {l : List Int} (h : hasA I A l = true) (h0 : Int → Bool) : ∀ j, j < l.length → edgeV (runN (baseV I h0) (coneR I A l).1.2) ((coneR I A l).2.1.getD j 0) = edgeV (runN (baseV I h0) A) (l.getD j 0) := by
  have := rest_val (a := []) h h0 h0 (fun v _ => rfl)
  rw [restI_nil] at this
  unfold coneR restR
  rw [if_pos ⟨h, rfl⟩]
  exact this
/-- The graph of a net of few gates. -/
theorem net_cone {P : List Blk} {gs : List Gt} {o : Int} (h : mayN P gs o = true) (hsz : 3 * gs.length + litsN gs ≤ 64512) :
    ∃ A x, netR P gs o = ((netI P, A), x, 0) ∧ mayA (netI P) A = true ∧ RedA A ∧ edgesB [x] (1 + (netI P).length + A.length) = true ∧ (∀ j, j < A.length → RchN (1 + (netI P).length) A [x] (1 + (netI P).length + j)) ∧ A.length ≤ 64512 := by
  have hp := mayN_pre h
  have hl : (netI P).length ≤ 1024 := by rw [netI_len]; exact (mayP_nums hp).2.2
  have hgr := netFold_gr (1 + (netI P).length) gs (inFold (netI P) (netI P), ([], false))
  have hf : (netQ (netI P) gs).2.2 = false := hgr.full (by simp; omega)
  have hlen : (netQ (netI P) gs).2.1.length ≤ 64512 := by have := hgr.len; simp at this; unfold netQ; omega
  obtain ⟨hh, hc0, hc1⟩ := netCone h
  obtain ⟨hm, hA, hle⟩ := hasA_parts hh
  obtain ⟨hroom, hI, _⟩ := mayA_parts hm
  have hred : RedA (netQ (netI P) gs).2.1 := by
    unfold netQ
    have key : ∀ (l : List Gt) (q : (Int → Option Int) × Mq), NetOk (1 + (netI P).length) q → RedA q.2.1 → (∀ g ∈ l, fitsB g.2.1 g.2.2.length = true) → RedA (l.foldl (gStepN (1 + (netI P).length)) q).2.1 := by
      intro l
      induction l with
      | nil => exact fun q _ h _ => h
      | cons g r ih =>
        intro q hq hr hl
        have hfit := hl g List.mem_cons_self
        refine ih _ (hq.step (by omega) hfit) ?_ (fun x hx => hl x (List.mem_cons_of_mem _ hx))
        have hins := hq.ins (by omega) g.2.2
        have hn := fits_need hfit
        have hie : ∀ {i}, i < g.2.2.length → isE ((g.2.2.map (edgeOfA q.1)).getD i 0) (1 + (netI P).length + q.2.1.length) = true := fun hi => hins _ (getD_mem (by rw [List.length_map]; exact hi))
        show RedA (gateMk _ _ _ _).2.1
        unfold gateMk
        split
        · exact allA_red (by omega) _ _ _ hq.ok hr (isE_true.2 ⟨by omega, by omega⟩) hins
        · split
          · exact allA_red (by omega) _ _ _ hq.ok hr (isE_true.2 ⟨by omega, by omega⟩) (fun e he => by obtain ⟨x, hx, rfl⟩ := List.mem_map.1 he; exact notE_isE (hins x hx))
          · split
            · rename_i c3
              have := hn.1 c3
              exact exclA_red (by omega) hq.ok hr (hie (by omega)) (hie (by omega))
            · rename_i c1 c2 c3
              have := hn.2.1 c1 c2 c3
              exact iteA_red (by omega) hq.ok hr (hie (by omega)) (hie (by omega)) (hie (by omega))
    refine key gs _ ?_ RedA.nil (mayN_fits h)
    exact ⟨by simpa using inFold_edges (netI P) (netI P), ⟨rfl, by simp; omega⟩⟩
  obtain ⟨⟨a1, a2, a3, a4⟩, a5, a6, a7, a8⟩ := cone_again hm hred hle
  generalize hcc : coneR (netI P) (netQ (netI P) gs).2.1 [edgeOfA (netQ (netI P) gs).1 o] = C at *
  obtain ⟨⟨CI, CA⟩, CE, ce⟩ := C
  simp only at a1 a2 a3 a4 a5 a6 a7 a8
  subst a1
  obtain ⟨x, rfl⟩ : ∃ x, CE = [x] := by
    match CE, a3 with
    | [x], _ => exact ⟨x, rfl⟩
  obtain ⟨_, b1, b2⟩ := hasA_parts a7
  refine ⟨CA, x, ?_, a5, a6, b2, ?_, ?_⟩
  · unfold netR
    rw [if_pos h, if_neg (by rw [hf]; simp), hcc]
    rfl
  · intro j hj
    have hcr := cone_red hm hred hle
    rw [hcc] at hcr
    have hA2 : CA = (stayN (1 + (netI P).length) (netQ (netI P) gs).2.1 [edgeOfA (netQ (netI P) gs).1 o]).map (prN (1 + (netI P).length) (stayN (1 + (netI P).length) (netQ (netI P) gs).2.1 [edgeOfA (netQ (netI P) gs).1 o]) (netQ (netI P) gs).2.1) := congrArg (·.1.2) hcr
    have hE2 : [x] = [edgeOfA (netQ (netI P) gs).1 o].map (mvE (1 + (netI P).length) (stayN (1 + (netI P).length) (netQ (netI P) gs).2.1 [edgeOfA (netQ (netI P) gs).1 o])) := congrArg (·.2.1) hcr
    rw [hA2] at hj ⊢
    rw [hE2]
    rw [List.length_map] at hj
    have hmm : (stayN (1 + (netI P).length) (netQ (netI P) gs).2.1 [edgeOfA (netQ (netI P) gs).1 o])[j] ∈ stayN (1 + (netI P).length) (netQ (netI P) gs).2.1 [edgeOfA (netQ (netI P) gs).1 o] := List.getElem_mem hj
    obtain ⟨n, hn, n1, n2, _⟩ := onN_mem.1 (show (stayN (1 + (netI P).length) (netQ (netI P) gs).2.1 [edgeOfA (netQ (netI P) gs).1 o])[j] ∈ onN _ _ _ from hmm)
    rw [hn] at hmm
    have := rch_to hA hle (m := [edgeOfA (netQ (netI P) gs).1 o]) (fun e he => he) ((stay_mem hA hle).1 hmm).2
    have hs : (stayN (1 + (netI P).length) (netQ (netI P) gs).2.1 [edgeOfA (netQ (netI P) gs).1 o]).Pairwise (· < ·) := onN_sorted _ _ _
    have hidx := List.Nodup.idxOf_getElem (hs.imp (fun h => by omega)) j hj
    rw [hn] at hidx
    unfold rhoN at this
    rw [if_neg (by omega), hidx] at this
    exact this
  · show CA.length ≤ _
    rw [a4]
    unfold sizeA
    rw [if_pos hh]
    exact Nat.le_trans (onN_len _ _ _) hlen
/-- The value of a net is that of the edge that it becomes. -/
theorem netR_val {P : List Blk} {gs : List Gt} {o : Int} {I : List Int} {A : List Pr} {x : Int} (h : mayN P gs o = true) (hr : netR P gs o = ((I, A), x, 0)) (a : List Int) : I = netI P ∧ litV (runA gs a).1 o = edgeV (runN (baseV I (setA (fun _ => false) a)) A) x := by
  obtain ⟨hh, hc0, hc1⟩ := netCone h
  unfold netR at hr
  rw [if_pos h] at hr
  split at hr
  · cases hr
  · rename_i hf
    have hf : (netQ (netI P) gs).2.2 = false := by simpa using hf
    have hv := net_val h hf a
    have hcv := cone_val hh (setA (fun _ => false) a) 0 (by simp)
    have e1 : (coneR (netI P) (netQ (netI P) gs).2.1 [edgeOfA (netQ (netI P) gs).1 o]).1 = (I, A) := congrArg Prod.fst hr
    have e2 : (coneR (netI P) (netQ (netI P) gs).2.1 [edgeOfA (netQ (netI P) gs).1 o]).2.1.getD 0 0 = x := congrArg (·.2.1) hr
    have hI : I = netI P := by
      have : (coneR (netI P) (netQ (netI P) gs).2.1 [edgeOfA (netQ (netI P) gs).1 o]).1.1 = netI P := by
        unfold coneR restR
        rw [if_pos ⟨hh, rfl⟩]
        exact restI_nil _
      rw [e1] at this
      exact this
    refine ⟨hI, ?_⟩
    rw [← hv, hI]
    rw [e1, e2] at hcv
    exact hcv.symm
end Go.Proofs.YtfghjfljomcldaaGreat

/- aig.FromNet: what a map and a maker keep of one another. -/
namespace Go.Proofs.YtfghjfljomcldaaGreat
open Go.RowKit Go.Maps
set_option linter.unusedVariables false
set_option linter.unusedSimpArgs false

/-- A map that stands apart is written: the maker stays. -/
theorem MkE.keptMap {w w' : World} {B pm bm : Nat} {I : List Int} {s : Mq} {vi : Value} {bf sl : Nat} (h : MkE w B pm I s vi bf sl) (k : Kept (fun j => j = bm) w w') {es : Array MapEntry} {clock : Nat} (hm : w.heap[bm]? = some (.map es clock)) (hne : bm ≠ bf) : MkE w' B pm I s vi bf sl := by
  obtain ⟨va, n, h⟩ := h
  have hpm : pm ≠ bm := fun e => by have := h.box; rw [e, hm] at this; simp at this
  refine ⟨va, n, ⟨(k.block pm h.lt hpm).trans h.box, h.ins.turn (fun g cur hg => k.block g (Array.getElem?_eq_some_iff.1 hg).1 (fun e => ?_)), h.i64, h.il, h.row.kept k (fun g hg e => ?_), h.map.kept k (fun e => hne e.symm), h.cap, h.slk, h.ok, h.inp, h.lb⟩⟩
  · rw [e, hm] at hg; simp at hg
  · obtain ⟨cur, hc⟩ := h.row.obj hg
    rw [e, hm] at hc; simp at hc
theorem MapM.obj {w : World} {b n : Nat} {f : Int → Option Int} (h : MapM w b n f) : ∃ es clock, w.heap[b]? = some (.map es clock) := by
  obtain ⟨D, ⟨es, clock, hb, _⟩, _⟩ := h
  exact ⟨es, clock, hb⟩
/-- A maker works: a map that stands apart stays. -/
theorem MapM.kpm {w w' : World} {B pm bf b n : Nat} {f : Int → Option Int} (h : MapM w b n f) (k : KpM B pm bf w w') (h1 : b ≠ pm) (h2 : b ≠ bf) : MapM w' b n f := by
  obtain ⟨es, clock, ho⟩ := h.obj
  have hs := k.same b _ h1 h2 ho trivial
  refine h.kept (Q := fun j => ¬ (w'.heap[j]? = w.heap[j]?)) ⟨k.below.os, k.below.tape, k.below.output, k.below.size, fun j _ hj => Classical.not_not.1 hj⟩ (fun hh => hh (hs.trans ho.symm))
theorem Kept.kpm {w w' : World} {B bm : Nat} (k : Kept (fun j => j = bm) w w') (hB : B ≤ bm) (hBw : B ≤ w.heap.size) : Below B w w' := k.below hBw (fun j hj e => by omega)
/-- What FromNet answers. -/
def NetRPost (w : World) (r : (List Int × List Pr) × Int × Int) (e : Ending) (w' : World) : Prop :=
  ∃ v1 v2, e = .returned (.tuple #[.agg #[v1, v2], .int .i64 r.2.1, .int .i64 r.2.2]) ∧ GrO w' w.heap.size v1 v2 r.1.1 r.1.2 ∧ Below w.heap.size w w'
/-- The boxes of a call's net and result. -/
theorem from_boxes (w : World) (vp vg : Value) (o : Int) : Below w.heap.size w ((w.alloc (.cells #[vp, vg, .int .i64 o] 98)).alloc (.cells #[.slice none 0 0, .slice none 0 0] 25)) ∧ ((w.alloc (.cells #[vp, vg, .int .i64 o] 98)).alloc (.cells #[.slice none 0 0, .slice none 0 0] 25)).heap.size = w.heap.size + 2 ∧
    ((w.alloc (.cells #[vp, vg, .int .i64 o] 98)).alloc (.cells #[.slice none 0 0, .slice none 0 0] 25)).heap[w.heap.size]? = some (.cells #[vp, vg, .int .i64 o] 98 (0, 0)) ∧
    ((w.alloc (.cells #[vp, vg, .int .i64 o] 98)).alloc (.cells #[.slice none 0 0, .slice none 0 0] 25)).heap[w.heap.size + 1]? = some (.cells #[.slice none 0 0, .slice none 0 0] 25 (0, 0)) := by
  have hb1 := below_alloc1 w (.cells #[vp, vg, .int .i64 o] 98)
  have hb2 := below_alloc1 (w.alloc (.cells #[vp, vg, .int .i64 o] 98)) (.cells #[.slice none 0 0, .slice none 0 0] 25)
  refine ⟨hb1.trans (hb2.mono hb1.size), by simp, (hb2.block _ (by simp)).trans (World.alloc_heap_new _ _), ?_⟩
  have h := World.alloc_heap_new (w.alloc (.cells #[vp, vg, .int .i64 o] 98)) (.cells #[.slice none 0 0, .slice none 0 0] 25)
  simpa using h
theorem box3_cells {W : World} {g : Nat} {a b c : Value} {T : TypeId} (hh : W.heap[g]? = some (.cells #[a, b, c] T (0, 0))) : W.cell? ⟨g, 0, none⟩ = some a ∧ W.cell? ⟨g, 1, none⟩ = some b ∧ W.cell? ⟨g, 2, none⟩ = some c := by
  refine ⟨?_, ?_, ?_⟩ <;> simp [World.cell?, hh]
theorem box2_mid {W : World} {g : Nat} {a b : Value} {T : TypeId} (hh : W.heap[g]? = some (.cells #[a, b] T (0, 0))) (u : Value) : (W.setCell ⟨g, 0, none⟩ u).heap[g]? = some (.cells #[u, b] T (0, 0)) := by
  simp only [World.setCell, Array.getElem?_modify]
  simp [hh]
theorem box2_set {W : World} {g : Nat} {a b : Value} {T : TypeId} (hh : W.heap[g]? = some (.cells #[a, b] T (0, 0))) (u v : Value) : ((W.setCell ⟨g, 0, none⟩ u).setCell ⟨g, 1, none⟩ v).heap[g]? = some (.cells #[u, v] T (0, 0)) := by
  have h := box2_mid hh u
  generalize W.setCell ⟨g, 0, none⟩ u = X at *
  simp only [World.setCell, Array.getElem?_modify]
  simp [h]
theorem own_setBox {W : World} {B nb : Nat} {v : Value} {xs : List Int} {cur : Array Value} (h : Own W B v xs) (hn : W.heap[nb]? = some (.cells cur 25 (0, 0))) (n : Nat) (u : Value) : Own (W.setCell ⟨nb, n, none⟩ u) B v xs :=
  own_turn h (fun g c hg => heap_set_other n u (fun e => by
    rw [e, hn] at hg
    simp only [Option.some.injEq, Obj.cells.injEq] at hg
    exact absurd hg.2.1 (by decide)))
theorem GrO.setBox {W : World} {B nb : Nat} {vi va : Value} {I : List Int} {A : List Pr} {cur : Array Value} (h : GrO W B vi va I A) (hn : W.heap[nb]? = some (.cells cur 25 (0, 0))) (n : Nat) (u : Value) : GrO (W.setCell ⟨nb, n, none⟩ u) B vi va I A :=
  ⟨h.ins.turn (fun g c hg => heap_set_other n u (fun e => by
    rw [e, hn] at hg
    simp only [Option.some.injEq, Obj.cells.injEq] at hg
    exact absurd hg.2.1 (by decide))), h.i64, h.il, h.row.turn (fun g hg => heap_set_other n u (fun e => by
    obtain ⟨c, hc⟩ := h.row.obj hg
    rw [e, hn] at hc
    simp only [Option.some.injEq, Obj.cells.injEq] at hc
    exact absurd hc.2.1 (by decide))), h.inp, h.al⟩
end Go.Proofs.YtfghjfljomcldaaGreat
