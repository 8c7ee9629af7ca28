/- Joined texts: AgQuant, AgNetP, AgUnus, AgLacks, AgConc. -/
import Derived.Test.YtppglbffmgnooaaGreatA10
import Derived.Test.YtppglbffmgnooaaGreatPxSort
import Derived.Test.YtppglbffmgnooaaGreatK10
import Derived.Lib.AppendZeros
/- aig.quantified. -/
namespace Go.Proofs.YtppglbffmgnooaaGreat
open Go.RowKit Go.Maps
set_option linter.unusedVariables false
set_option linter.unusedSimpArgs false

theorem flat_sub {p : List Blk} {k : Nat} (hk : k < p.length) : (flatB (p.take k)).length + (p.getD k dB).2.length ≤ (flatB p).length := by
  have h := flat_prefix (d := dB) hk (p.getD k dB).2.length
  rw [List.take_length] at h
  have := h.length_le
  rw [List.length_append] at this
  exact this
set_option maxRecDepth 100000 in
set_option maxHeartbeats 1600000 in
theorem aquant_any (v : Value) (p : List Blk) (w : World) (H : IsBlocks w v p) (hp : p.length ≤ 4000000) (hf : (flatB p).length ≤ 4000000) :
    Calls Tryz.prog 128 #[v] w fun e w' => ∃ v', e = .returned v' ∧ Own w' w.heap.size v' (ascI (flatB p)) ∧ Below w.heap.size w w' := by
  obtain ⟨a, cap, rfl, hl⟩ := H.shape
  have HH := Lib.hid H
  clear H
  go_enter Tryz.func128, Tryz.ntmps128
  go_wp2
  go_loopw [3, 8] (fun s3 i wr => ∃ k : Nat, k ≤ p.length ∧ i = .int .i64 k ∧ Own wr w.heap.size s3 (flatB (p.take k)) ∧ Below w.heap.size w wr) (fun _ i _ => p.length - (intOf i).toNat)
  case atStart => exact ⟨0, Nat.zero_le _, rfl, by simpa [flatB] using Own.nil _ _, Below.refl _ _⟩
  case round =>
    obtain ⟨k, hk, rfl, ho, hb⟩ := hrel
    have HO := Lib.hid ho
    have HB := Lib.hid hb
    clear ho hb
    by_cases hlt : k < p.length
    · obtain ⟨b, off, u, rfl, hbl, hcx0, hcu0, HU0⟩ := HH.out.at hlt
      have hcx := (HB.out.cell (p := ⟨b, off + k * 2, none⟩) hbl).trans hcx0
      have hcu := (HB.out.cell (p := ⟨b, off + k * 2 + 1, none⟩) hbl).trans hcu0
      obtain ⟨ua, uc, rfl⟩ := HU0.shape
      have HFT := Lib.hid (flat_take_succ (d := dB) hlt)
      have HLN := Lib.hid (flat_sub hlt)
      have hba := below_alloc1 wr (.cells #[.bool (p.getD k dB).1, .slice ua (p.getD k dB).2.length uc] 118)
      have HU := Lib.hid (HU0.below (HB.out.trans (hba.mono HB.out.size)) (Nat.le_refl _))
      have HOA := Lib.hid (HO.out.below hba (Nat.le_refl _))
      have HBA := Lib.hid (HB.out.trans (hba.mono HB.out.size))
      have HKL := Lib.hid hlt
      have hkb : k < 4000000 := by omega
      clear hcx0 hcu0 HU0 hlt hba
      generalize p.getD k dB = o at *
      obtain ⟨o1, o2⟩ := o
      simp only at hcx hcu HFT HLN HU HOA HBA
      go_upto_region 5 with fail
      have hbx : (wr.alloc (.cells #[.bool o1, .slice ua o2.length uc] 118)).heap[wr.heap.size]? = some (.cells #[.bool o1, .slice ua o2.length uc] 118 (0, 0)) := World.alloc_heap_new _ _
      obtain ⟨x0, x1, _, _⟩ := box2_cells hbx
      clear hbx hcx hcu
      generalize wr.alloc (.cells #[.bool o1, .slice ua o2.length uc] 118) = X at *
      go_wp2_with (at_builtin; refine wpList_app rfl _ _ rfl w.heap.size _ _ (flatB (p.take k)) o2 rfl rfl HOA.out HU.out (by have := HLN.out; omega) HBA.out.size ?_; intro v' w' ho' hg'; have HO' := Lib.hid ho'; have HG' := Lib.hid hg'; clear ho' hg')
      go_roundw
      case rel => exact ⟨k + 1, HKL.out, by go_num, by rw [HFT.out]; exact HO'.out, HBA.out.grown HG'.out HBA.out.size (fun j e => (HOA.out.lt j e).1)⟩
      case measure => have := HKL.out; simp [intOf]; omega
    · obtain rfl : k = p.length := by omega
      rw [List.take_length] at HO
      obtain ⟨va, vc, rfl⟩ := own_shC HO.out
      have HS := Lib.hid (sort2_any w.heap.size _ (flatB p) wr HO.out HB.out.size (by omega))
      go_wp2_with (go_at_call 102; refine HS.out.mono ?_; rintro e w2 ⟨rfl, ho2, hb2, _⟩; have HO2 := Lib.hid ho2; have HB2 := Lib.hid hb2; clear ho2 hb2)
      go_ret
      exact ⟨_, rfl, HO2.out, HB.out.trans HB2.out⟩
end Go.Proofs.YtppglbffmgnooaaGreat

/- Pure: the graph of a net. -/
namespace Go.Proofs.YtppglbffmgnooaaGreat
open Go.RowKit Go.Maps
set_option linter.unusedVariables false
set_option linter.unusedSimpArgs false

/-- The edges of variables, the inputs I having theirs by their places. -/
def inFold (I l : List Int) : Int → Option Int := l.foldl (fun f v => updM f v (2 * placeA I v)) (fun _ => none)
theorem inFold_succ {I l : List Int} {k : Nat} (h : k < l.length) : inFold I (l.take (k + 1)) = updM (inFold I (l.take k)) (l.getD k 0) (2 * placeA I (l.getD k 0)) := by
  unfold inFold
  rw [ints_take_succ h, List.foldl_append]
  rfl
/-- One gate more. -/
def gStepN (k : Nat) (q : (Int → Option Int) × Mq) (g : Gt) : (Int → Option Int) × Mq := (updM q.1 g.1 (gateMk k q.2 g.2.1 (g.2.2.map (edgeOfA q.1))).1, (gateMk k q.2 g.2.1 (g.2.2.map (edgeOfA q.1))).2)
def netQ (I : List Int) (gs : List Gt) : (Int → Option Int) × Mq := gs.foldl (gStepN (1 + I.length)) (inFold I I, ([], false))
theorem netQ_succ {I : List Int} {gs : List Gt} {k : Nat} (h : k < gs.length) : netQ I (gs.take (k + 1)) = gStepN (1 + I.length) (netQ I (gs.take k)) (gs.getD k dG) := by
  unfold netQ
  rw [gates_take h, List.foldl_append]
  rfl
def netI (P : List Blk) : List Int := ascI (flatB P)
/-- The graph of a net, its edge, and the error. -/
def netR (P : List Blk) (gs : List Gt) (o : Int) : (List Int × List Pr) × Int × Int :=
  if mayN P gs o = true then
    (if (netQ (netI P) gs).2.2 = true then (([], []), 0, 3)
    else ((coneR (netI P) (netQ (netI P) gs).2.1 [edgeOfA (netQ (netI P) gs).1 o]).1, (coneR (netI P) (netQ (netI P) gs).2.1 [edgeOfA (netQ (netI P) gs).1 o]).2.1.getD 0 0, 0))
  else (([], []), 0, 2)
/-- All variables have edges that there are. -/
def EdgF (f : Int → Option Int) (n : Nat) : Prop := ∀ v y, f v = some y → isE y n = true
theorem EdgF.upd {f : Int → Option Int} {n m : Nat} (h : EdgF f n) (hm : n ≤ m) {v y : Int} (hy : isE y m = true) : EdgF (updM f v y) m := by
  intro u z e
  unfold updM at e
  split at e
  · cases e; exact hy
  · exact isE_mono (h u z e) hm
theorem EdgF.at {f : Int → Option Int} {n : Nat} (h : EdgF f n) (hn : 1 ≤ n) (x : Int) : isE (edgeOfA f x) n = true := by
  have h0 : ∀ v, isE ((f v).getD 0) n = true := fun v => by
    cases e : f v with
    | none => exact isE_true.2 ⟨by simp, by simp; omega⟩
    | some y => exact h v y e
  unfold edgeOfA
  split
  · exact notE_isE (h0 _)
  · exact h0 _
theorem EdgF.bd {f : Int → Option Int} {n : Nat} (h : EdgF f n) (hn : n ≤ 200000) : ∀ v y, f v = some y → 0 ≤ y ∧ y ≤ 4000000 := fun v y e => by
  have := isE_true.1 (h v y e)
  omega
theorem inFold_edges (I : List Int) (l : List Int) : EdgF (inFold I l) (1 + I.length) := by
  unfold inFold
  have key : ∀ (l : List Int) (f : Int → Option Int), EdgF f (1 + I.length) → EdgF (l.foldl (fun f v => updM f v (2 * placeA I v)) f) (1 + I.length) := by
    intro l
    induction l with
    | nil => exact fun f h => h
    | cons x r ih =>
      intro f h
      refine ih _ (h.upd (Nat.le_refl _) ?_)
      have := placeA_bd I x
      exact isE_true.2 ⟨by omega, by omega⟩
  exact key l _ (fun v y e => by cases e)
theorem anyA_made {k : Nat} (hk : 1 ≤ k) (l : List Int) (s : Mq) (h : MOk k s) (hl : ∀ e ∈ l, isE e (k + s.1.length) = true) : Made k s (anyA k l s) := by
  unfold anyA
  refine (allA_made hk _ s 1 h (isE_true.2 ⟨by simp, by simp; omega⟩) (fun e he => ?_)).opp
  obtain ⟨x, hx, rfl⟩ := List.mem_map.1 he
  exact notE_isE (hl x hx)
theorem gateMk_made {k : Nat} (hk : 1 ≤ k) {l : List Int} {s : Mq} {kd : Int} (h : MOk k s) (hl : ∀ e ∈ l, isE e (k + s.1.length) = true) (h3 : kd = 3 → 2 ≤ l.length) (h4 : kd ≠ 1 → kd ≠ 2 → kd ≠ 3 → 3 ≤ l.length) : Made k s (gateMk k s kd l) := by
  have hg : ∀ {i}, i < l.length → isE (l.getD i 0) (k + s.1.length) = true := fun hi => hl _ (getD_mem hi)
  unfold gateMk
  by_cases c1 : kd = 1
  · rw [if_pos c1]; exact allA_made hk l s 1 h (isE_true.2 ⟨by simp, by simp; omega⟩) hl
  · rw [if_neg c1]
    by_cases c2 : kd = 2
    · rw [if_pos c2]; exact anyA_made hk l s h hl
    · rw [if_neg c2]
      by_cases c3 : kd = 3
      · rw [if_pos c3]
        have := h3 c3
        exact exclA_made h hk (hg (by omega)) (hg (by omega))
      · rw [if_neg c3]
        have := h4 c1 c2 c3
        exact iteA_made h hk (hg (by omega)) (hg (by omega)) (hg (by omega))
theorem fits_need {k : Int} {n : Nat} (h : fitsB k n = true) : (k = 3 → 2 ≤ n) ∧ (k ≠ 1 → k ≠ 2 → k ≠ 3 → 3 ≤ n) ∧ (0 < k ∧ k ≤ 4) := by
  unfold fitsB at h
  split at h
  · rename_i c; omega
  · split at h
    · have := of_decide_eq_true h; omega
    · split at h
      · have := of_decide_eq_true h; omega
      · cases h
/-- What holds while the gates are made. -/
structure NetOk (k : Nat) (q : (Int → Option Int) × Mq) : Prop where
  fe : EdgF q.1 (k + q.2.1.length)
  ok : MOk k q.2
theorem NetOk.ins {k : Nat} {q : (Int → Option Int) × Mq} (h : NetOk k q) (hk : 1 ≤ k) (l : List Int) : ∀ e ∈ l.map (edgeOfA q.1), isE e (k + q.2.1.length) = true := fun e he => by
  obtain ⟨x, hx, rfl⟩ := List.mem_map.1 he
  exact h.fe.at (by omega) x
theorem NetOk.gate {k : Nat} {q : (Int → Option Int) × Mq} (h : NetOk k q) (hk : 1 ≤ k) {g : Gt} (hf : fitsB g.2.1 g.2.2.length = true) : Made k q.2 (gateMk k q.2 g.2.1 (g.2.2.map (edgeOfA q.1))) := by
  have hn := fits_need hf
  exact gateMk_made hk h.ok (h.ins hk _) (by rw [List.length_map]; exact hn.1) (by rw [List.length_map]; exact hn.2.1)
theorem NetOk.step {k : Nat} {q : (Int → Option Int) × Mq} (h : NetOk k q) (hk : 1 ≤ k) {g : Gt} (hf : fitsB g.2.1 g.2.2.length = true) : NetOk k (gStepN k q g) := by
  have hm := h.gate hk hf
  obtain ⟨B, hB⟩ := hm.grow
  refine ⟨?_, hm.ok⟩
  unfold gStepN
  exact h.fe.upd (by simp only [hB, List.length_append]; omega) hm.edge
theorem netQ_ok {I : List Int} (hI : 1 + I.length ≤ 200000) : ∀ (gs : List Gt), (∀ g ∈ gs, fitsB g.2.1 g.2.2.length = true) → NetOk (1 + I.length) (netQ I gs) := by
  intro gs hf
  unfold netQ
  have key : ∀ (l : List Gt) (q : (Int → Option Int) × Mq), NetOk (1 + I.length) q → (∀ g ∈ l, fitsB g.2.1 g.2.2.length = true) → NetOk (1 + I.length) (l.foldl (gStepN (1 + I.length)) q) := by
    intro l
    induction l with
    | nil => exact fun q h _ => h
    | cons g r ih => intro q h hl; exact ih _ (h.step (by omega) (hl g List.mem_cons_self)) (fun x hx => hl x (List.mem_cons_of_mem _ hx))
  exact key gs _ ⟨by simpa using inFold_edges I I, ⟨rfl, by simpa using hI⟩⟩ hf
theorem netI_len (P : List Blk) : (netI P).length = (flatB P).length := ascI_len _
theorem mayP_nums {P : List Blk} (h : mayP P = true) : numsOk (flatB P) := by unfold mayP at h; exact (of_decide_eq_true h).2
theorem asc_nodup {l : List Int} (h : l.Nodup) : (ascI l).Pairwise (· < ·) := by
  have hn : (ascI l).Nodup := (ascI_perm l).nodup_iff.2 h
  refine ((ascI_sorted l).and hn).imp ?_
  rintro a b ⟨h1, h2⟩
  omega
theorem netI_lt {P : List Blk} (h : mayP P = true) : (netI P).Pairwise (· < ·) := asc_nodup (mayP_nums h).1
theorem netI_ins {P : List Blk} (h : mayP P = true) : insB (netI P) = true := by
  refine insB_of (fun x hx => ?_) (netI_lt h)
  have := (mayP_nums h).2.1 x (ascI_mem.1 hx)
  omega
theorem mayN_pre {P : List Blk} {gs : List Gt} {o : Int} (h : mayN P gs o = true) : mayP P = true := by
  unfold mayN namedN at h
  split at h
  · rename_i e; split at e
    · assumption
    · cases e
  · cases h
/-- The cone of the net's edge is made. -/
theorem netCone {P : List Blk} {gs : List Gt} {o : Int} (h : mayN P gs o = true) : hasA (netI P) (netQ (netI P) gs).2.1 [edgeOfA (netQ (netI P) gs).1 o] = true ∧ (coneR (netI P) (netQ (netI P) gs).2.1 [edgeOfA (netQ (netI P) gs).1 o]).2.2 = 0 ∧ (coneR (netI P) (netQ (netI P) gs).2.1 [edgeOfA (netQ (netI P) gs).1 o]).2.1.length = 1 := by
  have hp := mayN_pre h
  have hl : (netI P).length ≤ 1024 := by rw [netI_len]; exact (mayP_nums hp).2.2
  have hq := netQ_ok (I := netI P) (by omega) gs (mayN_fits h)
  have hm : mayA (netI P) (netQ (netI P) gs).2.1 = true := by
    unfold mayA
    have := hq.ok.room
    rw [decide_eq_true this, netI_ins hp, hq.ok.ok]
    rfl
  have hh : hasA (netI P) (netQ (netI P) gs).2.1 [edgeOfA (netQ (netI P) gs).1 o] = true := by
    unfold hasA
    rw [hm, Bool.true_and, edgesB_true]
    intro e he
    rw [List.mem_singleton] at he
    subst he
    exact isE_true.1 (hq.fe.at (by omega) o)
  refine ⟨hh, ?_, ?_⟩
  · unfold coneR restR
    rw [if_pos ⟨hh, rfl⟩]
  · unfold coneR restR
    rw [if_pos ⟨hh, rfl⟩]
    show (restC _ _ _ _).1.length = 1
    unfold restC copyA
    simp
end Go.Proofs.YtppglbffmgnooaaGreat

/- aig.unused, mayPrefix. -/
namespace Go.Proofs.YtppglbffmgnooaaGreat
open Go.RowKit Go.Maps
set_option linter.unusedVariables false
set_option linter.unusedSimpArgs false

theorem place_in {S : List Int} {v : Int} (h : v ∈ S) : 1 ≤ placeA S v := by
  unfold placeA
  rw [if_pos h]
  omega
theorem place_no {S : List Int} {v : Int} (h : v ∉ S) : placeA S v = 0 := by
  unfold placeA
  rw [if_neg h]
set_option maxRecDepth 100000 in
set_option maxHeartbeats 1600000 in
theorem aunused_any (vv : Value) (S : List Int) (k : Int) (w : World) (hS : IsInts w vv S) (hs : S.Pairwise (· < ·)) (hsl : S.length ≤ 4000000) (hk0 : 0 ≤ k) (hk1 : k ≤ 9223372036854775807) :
    Calls Tryz.prog 132 #[vv, .int .i64 k] w fun e w' => ∃ v, e = .returned v ∧ Own w' w.heap.size v (unusedL S k.toNat) ∧ Below w.heap.size w w' := by
  obtain ⟨gn, hg⟩ : ∃ gn : Nat, gn = 65536 := ⟨_, rfl⟩
  have hg1 : (gn : Int) ≤ 65536 := by omega
  have hg2 : (65536 : Int) ≤ (gn : Int) := by omega
  have HG := Lib.hid hg
  have HS := Lib.hid hS
  have HSO := Lib.hid hs
  obtain ⟨sa, sc, rfl⟩ := hS.shape
  clear hg hS hs
  go_enter Tryz.func132, Tryz.ntmps132
  go_wp2
  go_loopw [5, 6] (fun o v wr => ∃ (m : Nat), m ≤ gn ∧ v = .int .i64 ((m : Int) + 1) ∧ Own wr w.heap.size o (freeUp S m) ∧ ((freeUp S m).length : Int) ≤ k ∧ Below w.heap.size w wr) (fun _ v _ => gn + 1 - (intOf v).toNat)
  case atStart => exact ⟨0, Nat.zero_le _, rfl, Own.nil _ _, by simpa [freeUp] using hk0, Below.refl _ _⟩
  case round =>
    obtain ⟨m, hm, rfl, hown, hlen, hbel⟩ := hrel
    obtain ⟨oa, oc, rfl⟩ := own_shC hown
    have HSU := Lib.hid (freeUp_succ S m)
    have HLM := Lib.hid (freeUp_len S m)
    have hszr := hbel.size
    have HP := Lib.hid (place_any _ S ((m : Int) + 1) wr (HS.out.below hbel (Nat.le_refl _)) HSO.out hsl)
    have HAT := Lib.hid (fun (hm : m ≤ 65536) (hl : (freeUp S m).length ≤ k.toNat) (h : m = 65536 ∨ k.toNat ≤ (freeUp S m).length) => unused_at (S := S) hm hl h)
    have HOW := Lib.hid hown
    have HBE := Lib.hid hbel
    clear hown hbel
    generalize freeUp S m = F at *
    have hm0 : (0 : Int) ≤ (m : Int) := by omega
    by_cases hlt : m < gn
    · have h1 : (m : Int) + 1 ≤ 65536 := by omega
      have HLT := Lib.hid hlt
      clear hlt
      by_cases hlk : (F.length : Int) < k
      · by_cases hin : ((m : Int) + 1) ∈ S
        · have hpl := place_in hin
          have hne : (placeA S ((m : Int) + 1) == 0) = false := by simp; omega
          rw [if_pos hin, List.append_nil] at HSU
          clear hin hpl
          generalize placeA S ((m : Int) + 1) = q at *
          go_wp2_with (go_at_call 77; go_loud (refine HP.out.mono ?_; rintro e w2 ⟨rfl, hq⟩; have HQ := Lib.hid hq; clear hq))
          go_roundw
          case rel => exact ⟨m + 1, HLT.out, by go_num, by rw [HSU.out]; exact HOW.out.quiet HQ.out, by rw [HSU.out]; exact hlen, HBE.out.trans (HQ.out.below _)⟩
          case measure => have := HLT.out; simp [intOf]; omega
        · rw [place_no hin] at HP
          rw [if_neg hin] at HSU
          clear hin
          go_wp2_with (first
            | (at_builtin; refine wpList_app1A rfl _ _ rfl w.heap.size (.slice oa F.length oc) F ((m : Int) + 1) w2.heap.size rfl rfl (HO2.out.alloc _) (cell_fresh rfl) (by have := HLM.out; have := HLT.out; omega) (by simp; have := HB2.out.size; omega) ?_; intro v3 w3 ho3 hg3 _; have HB3 : Hid (Below w.heap.size w w3) := (HB2.out.alloc HB2.out.size _).grown hg3 (by simp; have := HB2.out.size; omega) (fun g hg => (HO2.out.lt g hg).1); have HO3 := Lib.hid ho3; clear ho3 hg3)
            | (go_at_call 77; go_loud (refine HP.out.mono ?_; rintro e w2 ⟨rfl, hq⟩; have HO2 := Lib.hid (HOW.out.quiet hq); have HB2 := Lib.hid (HBE.out.trans (hq.below w.heap.size)); clear hq)))
          go_roundw
          case rel => exact ⟨m + 1, HLT.out, by go_num, by rw [HSU.out]; exact HO3.out, by rw [HSU.out, List.length_append]; simp; omega, HB3.out⟩
          case measure => have := HLT.out; simp [intOf]; omega
      · have hkl : F.length = k.toNat := by omega
        have HU : Hid (unusedL S k.toNat = F) := HAT.out (by have := HG.out; have := HLT.out; omega) (by omega) (.inr (by omega))
        clear hkl
        go_wp2
        go_ret
        rw [HU.out]
        exact ⟨_, rfl, HOW.out, HBE.out⟩
    · have hmg : m = gn := by omega
      have h1 : ¬ ((m : Int) + 1 ≤ 65536) := by omega
      have h1b : decide ((m : Int) + 1 ≤ 65536) = false := by simpa using h1
      have HU : Hid (unusedL S k.toNat = F) := HAT.out (by have := HG.out; omega) (by omega) (.inl (by have := HG.out; omega))
      clear hmg hlt
      go_wp2
      go_ret
      rw [HU.out]
      exact ⟨_, rfl, HOW.out, HBE.out⟩
def mayPre (p : List Blk) : Bool := decide (p.length = 0) || (decide ((p.getD 0 dB).2 ≠ []) && mayN p [] ((p.getD 0 dB).2.getD 0 0))
set_option maxRecDepth 100000 in
set_option maxHeartbeats 1600000 in
theorem mayPrefix_any (v : Value) (p : List Blk) (w : World) (H : IsBlocks w v p) (hp : p.length ≤ 4000000) :
    Calls Tryz.prog 131 #[v] w fun e w' => e = .returned (.bool (mayPre p)) ∧ Below w.heap.size w w' := by
  obtain ⟨a, cap, rfl, hl⟩ := H.shape
  have HH := Lib.hid H
  by_cases h0 : p.length = 0
  · have HE : Hid (mayPre p = true) := by show _ = _; unfold mayPre; simp [h0]
    have hd : ((p.length : Int) == 0) = true := by simp [h0]
    clear h0 H
    go_enter Tryz.func131, Tryz.ntmps131
    go_wp2
    go_ret
    exact ⟨ret_bool HE.out.symm, Below.refl _ _⟩
  · have hlt : 0 < p.length := by omega
    have hd : ((p.length : Int) == 0) = false := by simp [h0]
    obtain ⟨b, off, u, rfl, hbl, hcx, hcu, HU0⟩ := H.at hlt
    simp only [Nat.zero_mul, Nat.add_zero] at hcx hcu
    have HEQ : Hid (mayPre p = (decide ((p.getD 0 dB).2 ≠ []) && mayN p [] ((p.getD 0 dB).2.getD 0 0))) := by show _ = _; unfold mayPre; simp [h0]
    obtain ⟨ua, uc, rfl⟩ := HU0.shape
    have hz : (0 : Int) < (p.length : Int) := by omega
    clear h0 hlt H
    generalize p.getD 0 dB = o at *
    obtain ⟨o1, o2⟩ := o
    simp only at HU0 hcu hcx HEQ
    by_cases h2 : o2.length = 0
    · have HE : Hid (mayPre p = false) := by show _ = _; rw [HEQ.out]; simp [List.eq_nil_of_length_eq_zero h2]
      rw [h2] at hcu
      clear h2 HEQ HU0
      go_enter Tryz.func131, Tryz.ntmps131
      go_wp2
      go_ret
      exact ⟨ret_bool HE.out.symm, Below.refl _ _⟩
    · have h2' : 0 < o2.length := by omega
      have hz2 : (0 : Int) < (o2.length : Int) := by omega
      obtain ⟨b2, off2, rfl, hb2, hx⟩ := HU0.cellY h2'
      have h64 := HU0.in64 _ (getD_mem h2')
      simp only [Nat.add_zero] at hx
      have HM := Lib.hid (cmay_any (.slice (some ⟨b, off, none⟩) p.length cap) (.slice none 0 0) (o2.getD 0 0) p [] w HH.out (IsGates.nil w) hp (by simp) h64.1 h64.2)
      have HE : Hid (mayPre p = mayN p [] (o2.getD 0 0)) := by
        show _ = _
        rw [HEQ.out, decide_eq_true (by intro e; rw [e] at h2; exact h2 rfl)]
        rfl
      clear h2 h2' HEQ HU0 h64
      generalize o2.getD 0 0 = x at *
      generalize mayN p [] x = t at *
      go_enter Tryz.func131, Tryz.ntmps131
      go_wp2_with (go_at_call 127; go_loud (refine HM.out.mono ?_; rintro e w2 ⟨rfl, hb⟩; have HB := Lib.hid hb; clear hb))
      go_ret
      exact ⟨ret_bool HE.out.symm, HB.out⟩
end Go.Proofs.YtppglbffmgnooaaGreat

/- aig.lacks. -/
namespace Go.Proofs.YtppglbffmgnooaaGreat
open Go.RowKit Go.Maps
set_option linter.unusedVariables false
set_option linter.unusedSimpArgs false

def usedA (e : Int) (A : List Pr) : List Int := e :: A.flatMap (fun p => [p.1, p.2])
theorem usedA_succ {e : Int} {A : List Pr} {k : Nat} (h : k < A.length) : usedA e (A.take (k + 1)) = usedA e (A.take k) ++ [(A.getD k dPr).1, (A.getD k dPr).2] := by
  unfold usedA
  rw [take_prS h, List.flatMap_append]
  simp
theorem usedA_len (e : Int) (A : List Pr) : (usedA e A).length = 1 + 2 * A.length := by
  unfold usedA
  induction A with
  | nil => rfl
  | cons x r ih => simp only [List.flatMap_cons, List.length_cons, List.length_append, List.length_nil] at ih ⊢; omega
theorem usedA_edges {k : Nat} {A : List Pr} {e : Int} (hA : okUpto k A A.length = true) (he : 0 ≤ e ∧ e / 2 < ((k + A.length : Nat) : Int)) : edgesB (usedA e A) (k + A.length) = true := by
  rw [edgesB_true]
  intro x hx
  unfold usedA at hx
  rcases List.mem_cons.1 hx with rfl | hx
  · exact he
  · obtain ⟨p, hp, hx⟩ := List.mem_flatMap.1 hx
    obtain ⟨i, hi, rfl⟩ := List.mem_iff_getElem.1 hp
    have hb := okPair_bd hA hi
    rw [show A.getD i dPr = A[i] from by simp [List.getD, hi]] at hb
    simp only [List.mem_cons, List.not_mem_nil, or_false] at hx
    rcases hx with rfl | rfl
    · exact ⟨hb.1.1, by have := hb.1.2; omega⟩
    · exact ⟨hb.2.1, by have := hb.2.2; omega⟩
def lackP (V I : List Int) (n : Int) : Bool := decide (placeA V (I.getD (n.toNat - 1) 0) = 0)
def lacksA (V I : List Int) (A : List Pr) (e : Int) : Bool := (onN (reachA (1 + I.length) A (usedA e A)) 1 I.length).any (lackP V I)
theorem lacks_enters (args : Array Value) (w : World) : (callFunc 173 args).run Tryz.prog w = .ok (.enter 173 args) w := enters_of Tryz.func173 (by kernel_rfl) rfl args w
set_option maxRecDepth 100000 in
theorem lacks1_any (b1 b2 : Nat) (vv vi : Value) (V I : List Int) (n : Nat) (w : World) (c1 : w.cell? ⟨b1, 0, none⟩ = some vv) (c2 : w.cell? ⟨b2, 0, none⟩ = some vi) (HV : IsInts w vv V) (HI : IsInts w vi I) (hs : V.Pairwise (· < ·)) (hvl : V.length ≤ 4000000) (h1 : 1 ≤ n) (h2 : n ≤ I.length) :
    Calls Tryz.prog 173 #[.int .i64 (n : Int), .pointer (some ⟨b1, 0, none⟩), .pointer (some ⟨b2, 0, none⟩)] w fun e w' => e = .returned (.bool (lackP V I (n : Int))) ∧ Quiet w w' := by
  obtain ⟨p, hp⟩ : ∃ p, n = p + 1 := ⟨n - 1, by omega⟩
  have hpI : p < I.length := by omega
  have hnp : (n : Int) - 1 = (p : Int) := by omega
  have HE : Hid (lackP V I (n : Int) = decide (placeA V (I.getD p 0) = 0)) := by
    show _ = _
    unfold lackP
    rw [show (n : Int).toNat - 1 = p from by omega]
  obtain ⟨ia, ic, rfl⟩ := HI.shape
  obtain ⟨b, off, rfl, hbl, hc⟩ := HI.cellY hpI
  obtain ⟨xa, xc, rfl⟩ := HV.shape
  have HP := Lib.hid (fun X (hq : Quiet w X) => place_any _ V (I.getD p 0) X (HV.below (hq.below w.heap.size) (Nat.le_refl _)) hs hvl)
  have hp0 : (0 : Int) ≤ (p : Int) := by omega
  have hp1 : (p : Int) < (I.length : Int) := by omega
  have hq0 : (0 : Int) ≤ (n : Int) := by omega
  have hnb : n ≤ 17592186044416 := by have := HI.len; omega
  clear HI HV hp hpI h1 h2
  generalize I.getD p 0 = y at *
  have HEB : Hid (lackP V I (n : Int) = (placeA V y == 0)) := by show _ = _; rw [HE.out]; rfl
  generalize placeA V y = q at *
  go_enter Tryz.func173, Tryz.ntmps173
  have hcp : ∀ k, Calls Tryz.prog 77 #[.slice xa V.length xc, .int .i64 y] (w.drewN k) fun e w' => e = .returned (.int .i64 q) ∧ Quiet (w.drewN k) w' := fun k => HP.out _ ⟨k, rfl⟩
  have d1 : ∀ k, (w.drewN k).cell? ⟨b1, 0, none⟩ = some (.slice xa V.length xc) := fun k => c1
  have d2 : ∀ k, (w.drewN k).cell? ⟨b2, 0, none⟩ = some (.slice (some ⟨b, off, none⟩) I.length ic) := fun k => c2
  have d3 : ∀ k, (w.drewN k).cell? ⟨b, off + p, none⟩ = some (.int .i64 y) := fun k => hc
  go_wp2_with fail
  go_quiet ((go_at_call 77; exact quiet_q (hcp _)))
  have HQ : Hid (Quiet w (w.drewN nq)) := ⟨nq, rfl⟩
  clear hcp d1 d2 d3 HP c1 c2 hc hbl
  generalize w.drewN nq = wq at *
  go_wp2_with fail
  go_ret
  exact ⟨ret_bool HEB.out.symm, HQ.out⟩
set_option maxRecDepth 100000 in
set_option maxHeartbeats 3200000 in
theorem lacks_any (vv vi va : Value) (V I : List Int) (A : List Pr) (e : Int) (w : World) (HV : IsInts w vv V) (HI : IsInts w vi I) (HA : IsPairs w va A) (hs : V.Pairwise (· < ·)) (hvl : V.length ≤ 4000000) (hn : 1 + I.length + A.length ≤ 200000)
    (hA : okUpto (1 + I.length) A A.length = true) (he : isE e (1 + I.length + A.length) = true) :
    Calls Tryz.prog 133 #[vv, .agg #[vi, va], .int .i64 e] w fun r w' => r = .returned (.bool (lacksA V I A e)) ∧ Below w.heap.size w w' := by
  have hb1 := below_alloc1 w (.cells #[vv] 22)
  have hb2 := below_alloc1 (w.alloc (.cells #[vv] 22)) (.cells #[vi, va] 25)
  have hb0 : Below w.heap.size w ((w.alloc (.cells #[vv] 22)).alloc (.cells #[vi, va] 25)) := hb1.trans (hb2.mono hb1.size)
  have hsz : ((w.alloc (.cells #[vv] 22)).alloc (.cells #[vi, va] 25)).heap.size = w.heap.size + 2 := by simp
  have c0 : ((w.alloc (.cells #[vv] 22)).alloc (.cells #[vi, va] 25)).cell? ⟨w.heap.size, 0, none⟩ = some vv := cell_old (cell_fresh rfl)
  have c1 : ((w.alloc (.cells #[vv] 22)).alloc (.cells #[vi, va] 25)).cell? ⟨w.heap.size + 1, 0, none⟩ = some vi := cell_fresh2 rfl
  have c2 : ((w.alloc (.cells #[vv] 22)).alloc (.cells #[vi, va] 25)).cell? ⟨w.heap.size + 1, 1, none⟩ = some va := cell_fresh2 rfl
  have HV1 := Lib.hid (HV.below hb0 (Nat.le_refl _))
  have HI1 := Lib.hid (HI.below hb0 (Nat.le_refl _))
  have HA1 := Lib.hid (HA.below hb0 (Nat.le_refl _))
  have he0 := isE_true.1 he
  have HUE := Lib.hid (usedA_edges (e := e) hA he0)
  have HOK := Lib.hid hA
  have HAP := Lib.hid HA.inP
  have hep : -9223372036854775808 ≤ e ∧ e ≤ 9223372036854775807 := by omega
  obtain ⟨xa, xc, rfl⟩ := HV.shape
  obtain ⟨ia, ic, rfl⟩ := HI.shape
  obtain ⟨aa, ac, rfl, _⟩ := HA.shape
  clear HV HI HA hb1 hb2 he he0
  go_enter Tryz.func133, Tryz.ntmps133
  go_upto_region 1 with fail
  generalize World.alloc (World.alloc w _) _ = W at *
  have HB0 := Lib.hid hb0
  have HSZ := Lib.hid hsz
  have C0 := Lib.hid c0
  have C1 := Lib.hid c1
  have C2 := Lib.hid c2
  have HW1 := Lib.hid (below_alloc1 W (.cells #[.int .i64 e] 3))
  have HO1 := Lib.hid (own1_new W e)
  have c2' : (W.alloc (.cells #[.int .i64 e] 3)).cell? ⟨w.heap.size + 1, 1, none⟩ = some (.slice aa A.length ac) := cell_old c2
  clear hb0 hsz c0 c1
  go_wp2
  go_loopw [7, 17] (fun s7 s17 wr => ∃ k : Nat, k ≤ A.length ∧ s17 = .int .i64 k ∧ Own wr W.heap.size s7 (usedA e (A.take k)) ∧ Below W.heap.size W wr) (fun _ s17 _ => A.length - (intOf s17).toNat)
  case atStart => exact ⟨0, Nat.zero_le _, rfl, HO1.out, HW1.out⟩
  case round =>
    obtain ⟨k, hk, rfl, ho, hb⟩ := hrel
    have HO := Lib.hid ho
    have HB := Lib.hid hb
    clear ho hb c2'
    by_cases hlt : k < A.length
    · obtain ⟨b, off, rfl, hbl, hx0, hy0⟩ := HA1.out.at hlt
      have hx := (HB.out.cell (p := ⟨b, off + k * 2, none⟩) hbl).trans hx0
      have hy := (HB.out.cell (p := ⟨b, off + k * 2 + 1, none⟩) hbl).trans hy0
      have hin := HAP.out _ (show A.getD k dPr ∈ A by simp [List.getD, hlt])
      have HUS := Lib.hid (usedA_succ (e := e) hlt)
      have HUL := Lib.hid (usedA_len e (A.take k))
      have HTL : Hid ((A.take k).length ≤ 200000) := by show _ ≤ _; rw [List.length_take]; omega
      have HKL := Lib.hid hlt
      have hkb : k < 4000000 := by omega
      clear hx0 hy0 hlt
      generalize usedA e (A.take k) = acc at *
      generalize A.getD k dPr = o at *
      obtain ⟨p1, p2⟩ := o
      simp only at hx hy hin HUS
      obtain ⟨q1, q2⟩ := hin
      go_upto_region 5 with fail
      have hba := below_alloc1 wr (.cells #[.int .i64 p1, .int .i64 p2] 115)
      have hbx : (wr.alloc (.cells #[.int .i64 p1, .int .i64 p2] 115)).heap[wr.heap.size]? = some (.cells #[.int .i64 p1, .int .i64 p2] 115 (0, 0)) := World.alloc_heap_new _ _
      obtain ⟨x0, x1, _, _⟩ := box2_cells hbx
      have HBA := Lib.hid (HB.out.trans (hba.mono HB.out.size))
      have HOA := Lib.hid (HO.out.below hba (Nat.le_refl _))
      clear hba hbx hx hy HO
      generalize wr.alloc (.cells #[.int .i64 p1, .int .i64 p2] 115) = X at *
      have hbb := below_alloc1 X (.cells #[.int .i64 p1, .int .i64 p2] 3)
      have HOB := Lib.hid (HOA.out.below hbb (Nat.le_refl _))
      have HIT := Lib.hid (ints_two (w := X) (a := p1) (b := p2) q1 q2)
      have HBB := Lib.hid (HBA.out.trans (hbb.mono HBA.out.size))
      clear hbb
      go_wp2_with (at_builtin; refine wpList_app rfl _ _ rfl W.heap.size _ _ acc [p1, p2] rfl rfl HOB.out HIT.out (by have := HUL.out; have := HTL.out; simp; omega) HBB.out.size ?_; intro v' w' ho' hg'; have HO' := Lib.hid ho'; have HG' := Lib.hid hg'; clear ho' hg')
      go_roundw
      case rel => exact ⟨k + 1, HKL.out, by go_num, by rw [HUS.out]; exact HO'.out, HBB.out.grown HG'.out HBB.out.size (fun j e => (HOB.out.lt j e).1)⟩
      case measure => have := HKL.out; simp [intOf]; omega
    · obtain rfl : k = A.length := by omega
      rw [List.take_length] at HO
      have HUL := Lib.hid (usedA_len e A)
      have HIU := Lib.hid (HO.out.ints (by rw [HUL.out]; omega) (fun x hx => by have := edgesB_true.1 HUE.out x hx; omega))
      have HLQ : Hid (lacksA V I A e = (onN (reachA (1 + I.length) A (usedA e A)) 1 I.length).any (lackP V I)) := rfl
      obtain ⟨ua, uc, rfl⟩ := own_shC HO.out
      have HR := Lib.hid (reached_any _ _ _ I A (usedA e A) wr (HI1.out.below HB.out (Nat.le_refl _)) (HA1.out.below HB.out (Nat.le_refl _)) HIU.out (by omega) (by omega) HOK.out HUE.out)
      have HIN := Lib.hid (fun k => @onN_in (reachA (1 + I.length) A (usedA e A)) 1 I.length k)
      have HLI : Hid ((onN (reachA (1 + I.length) A (usedA e A)) 1 I.length).length ≤ 200000) := Nat.le_trans (onN_len _ _ _) (by omega)
      have H64I : Hid (In64 (onN (reachA (1 + I.length) A (usedA e A)) 1 I.length)) := fun y hy => by obtain ⟨n, rfl, _, _, _⟩ := onN_mem.1 hy; omega
      have HMI : Hid (∀ x ∈ onN (reachA (1 + I.length) A (usedA e A)) 1 I.length, ∃ n : Nat, x = (n : Int) ∧ 1 ≤ n ∧ n ≤ I.length) := fun x hx => by obtain ⟨n, rfl, h1, h2, _⟩ := onN_mem.1 hx; exact ⟨n, rfl, h1, by omega⟩
      generalize onN (reachA (1 + I.length) A (usedA e A)) 1 I.length = ins at *
      have hcc : ∀ X, Below W.heap.size W X → X.cell? ⟨w.heap.size, 0, none⟩ = some (.slice xa V.length xc) ∧ X.cell? ⟨w.heap.size + 1, 0, none⟩ = some (.slice ia I.length ic) ∧ X.cell? ⟨w.heap.size + 1, 1, none⟩ = some (.slice aa A.length ac) := fun X hX =>
        ⟨(hX.cell (World.block_lt_of_cell? W _ C0.out)).trans C0.out, (hX.cell (World.block_lt_of_cell? W _ C1.out)).trans C1.out, (hX.cell (World.block_lt_of_cell? W _ C2.out)).trans C2.out⟩
      obtain ⟨_, d1, d2⟩ := hcc wr HB.out
      have HCC := Lib.hid hcc
      have HCF : Hid (∀ X v, Below W.heap.size W X → IsInts X v ins → Calls Tryz.prog 146 #[v, .func (.func 173) #[] #[.pointer (some ⟨w.heap.size, 0, none⟩), .pointer (some ⟨w.heap.size + 1, 0, none⟩)]] X fun e w' => e = .returned (.bool (ins.any (lackP V I))) ∧ Quiet X w') := fun X v hX hi =>
        containsi_any (lackP V I) 173 #[.pointer (some ⟨w.heap.size, 0, none⟩), .pointer (some ⟨w.heap.size + 1, 0, none⟩)] v ins X lacks_enters (fun Y x hq hx => by
          obtain ⟨n, rfl, n1, n2⟩ := HMI.out x hx
          have hY : Below W.heap.size W Y := hX.trans (hq.below _)
          obtain ⟨e0, e1, _⟩ := HCC.out Y hY
          exact lacks1_any w.heap.size (w.heap.size + 1) _ _ V I n Y e0 e1 (HV1.out.below hY (Nat.le_refl _)) (HI1.out.below hY (Nat.le_refl _)) hs hvl n1 n2) hi
      clear hcc HO HUL HIU hk
      go_wp2_with (first
        | (go_at_call 146; go_loud (refine (HCF.out w2 _ HB2.out HU2.out).mono ?_; rintro er w3 ⟨rfl, hq⟩; have HQ3 := Lib.hid hq; clear hq))
        | (go_at_call 63; go_loud (refine HR.out.mono ?_; rintro er w2 ⟨u, v, rfl, hu, hv, hb2⟩; have HU2 := Lib.hid (hu.ints (by have := HLI.out; omega) H64I.out); obtain ⟨ub, ud, rfl⟩ := own_shC hu; obtain ⟨va', vc, rfl⟩ := own_shC hv; have HB2 := Lib.hid (HB.out.trans (hb2.mono HB.out.size)); clear hu hv hb2)))
      go_ret
      exact ⟨ret_bool HLQ.out.symm, HB0.out.trans ((HB2.out.trans (HQ3.out.below _)).mono HB0.out.size)⟩
end Go.Proofs.YtppglbffmgnooaaGreat

/- slices.Grow of nil and slices.Concat over integers. -/
namespace Go.Proofs.YtppglbffmgnooaaGreat
open Go.RowKit
set_option linter.unusedVariables false
set_option linter.unusedSimpArgs false

theorem own_empty {w : World} {B g cap : Nat} {cur : Array Value} (hg : B ≤ g) (hh : w.heap[g]? = some (.cells cur 3 (0, 0))) (hc : cur.size = cap) (hm : cap ≤ maxLen) : Own w B (.slice (some ⟨g, 0, none⟩) 0 cap) [] :=
  ⟨rfl, .inr ⟨g, cap, cur, rfl, hg, hh, Nat.zero_le _, hm, by omega, by simp⟩⟩
set_option maxRecDepth 100000 in
set_option maxHeartbeats 1600000 in
theorem growI_any (n : Nat) (w : World) (h0 : 0 < n) (hn : n ≤ 5000000) :
    Calls Tryz.prog 154 #[.slice none 0 0, .int .i64 n] w fun e w' => ∃ a c, e = .returned (.slice a 0 c) ∧ Own w' w.heap.size (.slice a 0 c) [] ∧ Below w.heap.size w w' := by
  obtain ⟨i0, hi, hz0, hz1, hz2⟩ := info_parts info_int
  have hr := fun ty => Lib.run_append_nil_zeros (P := Tryz.prog) w 22 3 ty 3 i0 (.int .i64 0) .i64 .i64 Tryz.underlying22 Tryz.underlying3 hi hz0 n h0 (by rw [hz1]; omega) (by omega) (by rw [hz2]; omega)
  have HR := Lib.hid hr
  have HGE := Lib.hid (grownCap_ge w n 0 3)
  have HLE := Lib.hid (grownCap_le_maxLen w n 0 3 (by unfold maxLen; omega))
  have hW : Hid (∀ cap, n ≤ cap → cap ≤ maxLen → Own (w.drew.alloc (.cells (Builtin.zeroCells (Value.int .i64 0).cells n ++ Builtin.zeroCells (Value.int .i64 0).cells (cap - n)) 3)) w.heap.size (.slice (some ⟨w.heap.size, 0, none⟩) 0 cap) [] ∧ Below w.heap.size w (w.drew.alloc (.cells (Builtin.zeroCells (Value.int .i64 0).cells n ++ Builtin.zeroCells (Value.int .i64 0).cells (cap - n)) 3))) := fun cap h1 h2 => by
    refine ⟨own_empty (Nat.le_refl _) (World.alloc_heap_new w.drew _) ?_ h2, ((Below.refl w.heap.size w).drew).alloc (Nat.le_refl _) _⟩
    rw [Array.size_append, size_zeroCells, size_zeroCells]
    simp [Value.cells]
    omega
  have hn0 : (0 : Int) < (n : Int) := by omega
  have hw1 : wrap64 (n : Int) = n := by
    obtain ⟨mi, hmi⟩ : ∃ x : Int, (n : Int) = x := ⟨_, rfl⟩
    rw [hmi]
    unfold wrap64; omega
  have hn1 : ¬ (n : Int) < 0 := by omega
  clear hr
  obtain ⟨ni, hni⟩ : ∃ x : Int, (n : Int) = x := ⟨_, rfl⟩
  have HNI := Lib.hid hni
  rw [hni] at hn0 hw1 hn1 HR ⊢
  have hd0 : decide (ni < 0) = false := by simpa using hn1
  generalize grownCap w n 0 3 = cap at *
  clear hni
  go_enter Tryz.func154, Tryz.ntmps154
  go_upto_region 4 with fail
  rw [hw1]
  go_wp2_with (at_builtin; go_loud (refine Lib.wpList_append_run _ rfl (.tmp 20) (.tmp 21) 22 3 rfl (.slice none 0 0) (.int .i64 ni) rfl rfl _ _ (HR.out _) ?_))
  go_ret
  have h9 := hW.out cap HGE.out HLE.out
  exact ⟨_, cap, rfl, h9.1, h9.2⟩
theorem growI_zero (w : World) :
    Calls Tryz.prog 154 #[.slice none 0 0, .int .i64 0] w fun e w' => ∃ a c, e = .returned (.slice a 0 c) ∧ Own w' w.heap.size (.slice a 0 c) [] ∧ Below w.heap.size w w' := by
  go_enter Tryz.func154, Tryz.ntmps154
  go_wp2
  go_ret
  exact ⟨none, 0, rfl, Own.nil _ _, Below.refl _ _⟩
theorem growI_all (n : Nat) (w : World) (hn : n ≤ 5000000) :
    Calls Tryz.prog 154 #[.slice none 0 0, .int .i64 n] w fun e w' => ∃ a c, e = .returned (.slice a 0 c) ∧ Own w' w.heap.size (.slice a 0 c) [] ∧ Below w.heap.size w w' := by
  by_cases h0 : 0 < n
  · exact growI_any n w h0 hn
  · obtain rfl : n = 0 := by omega
    exact growI_zero w
def totI (ps : List (List Int)) : Nat := (ps.map List.length).sum
theorem totI_take {ps : List (List Int)} {k : Nat} (h : k < ps.length) : totI (ps.take (k + 1)) = totI (ps.take k) + (ps.getD k []).length := by
  unfold totI
  rw [List.take_succ_eq_append_getElem h, List.map_append, List.sum_append]
  simp only [List.map_cons, List.map_nil, List.sum_cons, List.sum_nil, List.getD, List.getElem?_eq_getElem h, Option.getD_some, Nat.add_zero]
theorem totI_le (ps : List (List Int)) (k : Nat) : totI (ps.take k) ≤ totI ps := by
  have h2 : totI (ps.take k ++ ps.drop k) = totI (ps.take k) + totI (ps.drop k) := by unfold totI; rw [List.map_append, List.sum_append]
  rw [List.take_append_drop] at h2
  omega
theorem flat_takeI {ps : List (List Int)} {k : Nat} (h : k < ps.length) : (ps.take (k + 1)).flatten = (ps.take k).flatten ++ ps.getD k [] := by
  rw [List.take_succ_eq_append_getElem h, List.flatten_append]
  simp [List.getD, h]
theorem totI_flat (ps : List (List Int)) : ps.flatten.length = totI ps := by unfold totI; rw [List.length_flatten]

set_option maxRecDepth 100000 in
set_option maxHeartbeats 3200000 in
theorem concI_any (gs cs : Nat) (vs : List Value) (ps : List (List Int)) (w : World) (hgs : gs < w.heap.size) (hcell : ∀ j, j < ps.length → w.cell? ⟨gs, j, none⟩ = some (vs.getD j (.slice none 0 0)))
    (hbl : ∀ j, j < ps.length → IsInts w (vs.getD j (.slice none 0 0)) (ps.getD j [])) (hn : totI ps ≤ 5000000) (hm : ps.length ≤ 1000000) :
    Calls Tryz.prog 101 #[.slice (some ⟨gs, 0, none⟩) ps.length cs] w fun e w' => ∃ v, e = .returned v ∧ Own w' w.heap.size v ps.flatten ∧ Below w.heap.size w w' := by
  have HC := Lib.hid hcell
  have HBL := Lib.hid hbl
  have HTN := Lib.hid hn
  clear hcell hbl hn
  go_enter Tryz.func101, Tryz.ntmps101
  go_wp2
  go_loop [3, 11] (fun sz i => ∃ (k : Nat) (si : Int), k ≤ ps.length ∧ i = .int .i64 k ∧ sz = .int .i64 si ∧ si = (totI (ps.take k) : Int)) (fun _ i => ps.length - (intOf i).toNat)
  case atStart => exact ⟨0, 0, Nat.zero_le _, rfl, rfl, by simp [totI]⟩
  case round =>
    obtain ⟨k, si, hk, rfl, rfl, hsi⟩ := hrel
    have HSI := Lib.hid hsi
    by_cases hlt : k < ps.length
    · have hcx := HC.out k hlt
      obtain ⟨a1, c1, e1⟩ := (HBL.out k hlt).shape
      rw [e1] at hcx
      have HTT := Lib.hid (totI_take hlt)
      have HTL := Lib.hid (totI_le ps (k + 1))
      generalize (ps.getD k []).length = n1 at *
      have hs0 : 0 ≤ si := by omega
      have hs1 : si + (n1 : Int) ≤ 5000000 := by have h1 := HTT.out; have h2 := HTL.out; have h3 := HTN.out; have h4 := HSI.out; omega
      have hw1 : wrap64 (si + (n1 : Int)) = si + (n1 : Int) := by unfold wrap64; omega
      have hd0 : decide (si + (n1 : Int) < 0) = false := by rw [decide_eq_false_iff_not]; omega
      clear hsi
      go_wp2
      go_round
      case rel => exact ⟨k + 1, si + (n1 : Int), by omega, by go_num, rfl, by have h1 := HTT.out; have h4 := HSI.out; omega⟩
      case measure => simp [intOf]; omega
    · have hke : k = ps.length := by omega
      subst hke
      rw [List.take_length] at HSI
      have hs2 := HSI.out
      subst hs2
      have HG := Lib.hid (growI_all (totI ps) w HTN.out)
      clear hsi HSI
      go_wp2_with (go_at_call 154; refine HG.out.mono ?_; rintro e w1 ⟨a1, c1, rfl, hr1, hb1⟩)
      have HR1 := Lib.hid hr1
      have HB1 := Lib.hid hb1
      have hszw1 := hb1.size
      clear hr1 hb1
      go_loopw [6, 27] (fun out i wr => ∃ (k : Nat) (t : List Int), k ≤ ps.length ∧ i = .int .i64 k ∧ Own wr w.heap.size out t ∧ t = (ps.take k).flatten ∧ Below w.heap.size w wr) (fun _ i _ => ps.length - (intOf i).toNat)
      case atStart => exact ⟨0, [], Nat.zero_le _, rfl, HR1.out, rfl, HB1.out⟩
      case round =>
        obtain ⟨k, t, hk, rfl, hown, hsh, hbel⟩ := hrel
        have HSH := Lib.hid hsh
        have HOWN := Lib.hid hown
        have HBW := Lib.hid hbel
        obtain ⟨oa, oc, rfl⟩ := own_shC hown
        have hszr := hbel.size
        by_cases hlt : k < ps.length
        · have hcx := (hbel.cell (p := ⟨gs, k, none⟩) hgs).trans (HC.out k hlt)
          have hb1 := HBL.out k hlt
          obtain ⟨a1, c1, e1⟩ := hb1.shape
          rw [e1] at hcx hb1
          have HSR := Lib.hid (hb1.below HBW.out (Nat.le_refl _))
          have HFT : Hid (t ++ ps.getD k [] = (ps.take (k + 1)).flatten) := by show _ = _; rw [flat_takeI hlt, HSH.out]
          have hbd : t.length + (ps.getD k []).length ≤ 17592186044416 := by
            have h1 := congrArg List.length HFT.out
            rw [List.length_append, totI_flat] at h1
            have h2 := totI_le ps (k + 1)
            have h3 := HTN.out
            omega
          have HBD := Lib.hid hbd
          clear hsh hown hbel hbd hb1 e1
          generalize ps.getD k [] = s at *
          obtain ⟨m1, hm1⟩ : ∃ m, s.length = m := ⟨_, rfl⟩
          rw [hm1] at hcx HSR
          clear hm1
          go_wp2_with (at_builtin; go_loud (refine wpList_app rfl _ _ rfl w.heap.size (.slice oa t.length oc) (.slice a1 m1 c1) t s rfl rfl HOWN.out HSR.out HBD.out hszr ?_; intro v4 w4 hown4 hg4; have HO4 := Lib.hid hown4; have HG4 := Lib.hid hg4; clear hown4 hg4))
          have HBN := Lib.hid (below_app HBW.out HOWN.out hszr HG4.out)
          go_roundw
          case rel => exact ⟨k + 1, _, by omega, by go_num, HO4.out, HFT.out, HBN.out⟩
          case measure => simp [intOf]; omega
        · have hke : k = ps.length := by omega
          subst hke
          rw [List.take_length] at HSH
          clear hsh hown hbel
          go_wp2
          go_ret
          exact ⟨_, rfl, by rw [← HSH.out]; exact HOWN.out, HBW.out⟩
end Go.Proofs.YtppglbffmgnooaaGreat
