/- asg.run: what unit propagation finds. -/
import Derived.Test.YtmhjpbhldaagmaaDoorUnitsSt
import Derived.Deep.LoopGhost
namespace Go.Proofs.YtmhjpbhldaagmaaDoor
open Go.RowKit
set_option linter.unusedVariables false

/-- Clauses as they must be, and not too many. -/
structure Fine (f : List (List Int)) : Prop where
  lit : ∀ c ∈ f, ∀ x ∈ c, litB x = true
  nd : ∀ c ∈ f, c.Nodup
  len : f.length ≤ 20000
  small : ∀ c ∈ f, c.length ≤ 200000
theorem Fine.at {f : List (List Int)} (F : Fine f) {i : Nat} (hi : i < f.length) : f.getD i [] ∈ f := by simp [List.getD, hi]

/-- On the way: the literals H are true, the steps l are made. -/
def RS (n : Nat) (w0 : World) (f : List (List Int)) (vf : Value) (nh ng : Nat) (a : List Int) (gk : Nat) (lv : Value) (wr : World) : Prop :=
  ∃ (vw : Value) (H left wait : List Int) (l : List (Int × Nat)), PS n wr vf vw (nh + l.length) ng (fun k => decide (k ∈ H)) (gOf f f.length 0) left wait ∧ UInv f H left wait ∧ OwnS wr (n + 4) lv l ∧ Below n w0 wr ∧
    (∀ m c, Run f H m c → Run f a (l ++ m) c) ∧ l.length + gk ≤ f.length ∧ gk = bigs left + wait.length ∧ ∀ p ∈ l, (-65536 ≤ p.1 ∧ p.1 ≤ 65536) ∧ p.2 < 20000
/-- What run hands back. -/
def RunPost (n : Nat) (w0 : World) (f : List (List Int)) (a : List Int) (e : Ending) (w' : World) : Prop :=
  ∃ v l c, e = .returned (.tuple #[v, .int .i64 c]) ∧ Run f a l c ∧ OwnS w' (n + 4) v l ∧ l.length ≤ f.length ∧ (∀ p ∈ l, (-65536 ≤ p.1 ∧ p.1 ≤ 65536) ∧ p.2 < 20000) ∧ Below n w0 w'

theorem remL_cases (H c : List Int) : (nonF H c = [] ∧ remL (fun k => decide (k ∈ H)) c = 0) ∨ ∃ x ∈ c, -x ∉ H ∧ remL (fun k => decide (k ∈ H)) c = x := by
  unfold remL
  cases h : c.find? (fun x => !decide (-x ∈ H)) with
  | none =>
    left
    rw [List.find?_eq_none] at h
    refine ⟨?_, rfl⟩
    unfold nonF
    rw [List.filter_eq_nil_iff]
    intro x hx
    have := h x hx
    simpa using this
  | some x =>
    right
    refine ⟨x, List.mem_of_find?_eq_some h, ?_, rfl⟩
    have := List.find?_some h
    simpa using this
theorem memH (H : List Int) (x : Int) : (fun k => if k = x then true else decide (k ∈ H)) = (fun k => decide (k ∈ x :: H)) := by
  funext k
  by_cases e : k = x
  · rw [if_pos e]; simp [e]
  · rw [if_neg e]; simp [e]

/-- All clauses with its negative have been looked at. -/
theorem UInv.set2 {f : List (List Int)} {H left0 full wait0 left wait : List Int} {g : List Nat} {x : Int} {m : Nat} (u : UInv f H left0 full) (hfw : ∀ j, j ∈ full ↔ j = (m : Int) ∨ j ∈ wait0) (hxm : x ∈ f.getD m []) (s : SInv f.length left0 wait0 g g.length left wait) (hnd : ∀ c ∈ f, c.Nodup)
    (hg : ∀ i, i ∈ g ↔ i < f.length ∧ -x ∈ f.getD i []) (hx0 : x ≠ 0) (hxH : x ∉ H) (hxn : -x ∉ H) : UInv f (x :: H) left wait := by
  have s2 := s.lf
  have s4 := s.wt
  rw [List.take_length] at s2 s4
  have hc : ∀ i, i < f.length → (f.getD i []).Nodup := fun i hi => hnd _ (by simp [List.getD, hi])
  have cnt : ∀ i, i < f.length → left.getD i 0 = ((nonF (x :: H) (f.getD i [])).length : Int) := by
    intro i hi
    have e : nonF (x :: H) (f.getD i []) = (f.getD i []).filter (fun y => decide (y ≠ -x) && decide (-y ∉ H)) := by
      unfold nonF
      apply List.filter_congr
      intro y _
      by_cases e1 : y = -x
      · subst e1; simp
      · have : -y ≠ x := fun h => e1 (by omega)
        simp [e1, this]
    rw [e, filter_strike (hc i hi), s2 i hi, u.cnt i hi]
    have e3 : (-x ∈ f.getD i [] ∧ decide (-(-x) ∉ H) = true) ↔ i ∈ g := by
      rw [hg, Int.neg_neg]; simp [hxH, hi]
    simp only [e3]
    rfl
  refine ⟨s.len, cnt, fun j hj => ?_, fun i hi hl => ?_, fun y hy hn => ?_⟩
  · obtain ⟨i, e, hi⟩ := s.nn j hj
    refine ⟨i, e, hi, ?_⟩
    rw [s2 i hi]
    rw [e] at hj
    rcases (s4 i).1 hj with h | ⟨h, h2⟩
    · obtain ⟨i', e', _, hle⟩ := u.win _ ((hfw _).2 (Or.inr h))
      obtain rfl : i = i' := by omega
      split <;> omega
    · rw [if_pos h]; omega
  · rw [s2 i hi] at hl
    by_cases h1 : left0.getD i 0 ≤ 1
    · rcases u.all i hi h1 with h | ⟨y, hy, hH⟩
      · rcases (hfw _).1 h with h | h
        · have : i = m := by omega
          exact Or.inr ⟨x, this ▸ hxm, List.mem_cons_self⟩
        · exact Or.inl ((s4 i).2 (Or.inl h))
      · exact Or.inr ⟨y, hy, List.mem_cons_of_mem _ hH⟩
    · by_cases h2 : i ∈ g
      · rw [if_pos h2] at hl
        exact Or.inl ((s4 i).2 (Or.inr ⟨h2, by omega⟩))
      · rw [if_neg h2] at hl; omega
  · rcases List.mem_cons.1 hy with h | h
    · subst h
      rcases List.mem_cons.1 hn with h | h
      · omega
      · exact hxn h
    · rcases List.mem_cons.1 hn with h2 | h2
      · exact hxn (by rw [← h2, Int.neg_neg]; exact h)
      · exact u.con y h h2

set_option maxHeartbeats 3200000 in
set_option maxRecDepth 100000 in
theorem run_any (n : Nat) (w0 w : World) (av : Option Addr) (cap : Nat) (vw : Value) (nh ng : Nat) (left wait : List Int) (f : List (List Int)) (a : List Int)
    (F : Fine f) (s : PS n w (.slice av f.length cap) vw nh ng (fun k => decide (k ∈ a)) (gOf f f.length 0) left wait) (u : UInv f a left wait) (hm : bigs left + wait.length ≤ f.length)
    (HR : IsRows w0 (.slice av f.length cap) f) (h0 : w0.heap.size = n) (hb : Below n w0 w) (hng : ng ≤ 1000000) (hnh : nh ≤ 200000) :
    Calls Tryd.prog 35 #[.pointer (some ⟨n + 3, 0, none⟩)] w (RunPost n w0 f a) := by
  have HSt : Hid (RS n w0 f (.slice av f.length cap) nh ng a (bigs left + wait.length) (.slice none 0 0) w) := ⟨vw, a, left, wait, [], s, u, OwnS.nil _ _, hb, fun m c h => h, by simpa using hm, rfl, by simp⟩
  have hlen := F.len
  have HF := Lib.hid F
  have HRR := Lib.hid HR
  clear s u hm HR hb F
  have hta : ∀ (x : Int) (w : World), (Instr.typeAssert (.iface 3 (.int .i64 x)) 20 3 false).run Tryd.prog w = .ok (.int .i64 x) w := fun _ _ => by kernel_rfl
  go_enter Tryd.func35, Tryd.ntmps35
  go_wp2
  go_loopg [2] (bigs left + wait.length) (fun gk lv wr => RS n w0 f (.slice av f.length cap) nh ng a gk lv wr)
  case atStart => exact HSt.out
  case round =>
    clear HSt
    obtain ⟨vw', H, left', wait', l, hps, hu, hos, hbel, hrun, hlg, hgk, hpl⟩ := hrel
    obtain ⟨d0, d1, d2, d3, d4⟩ := hps.cells
    obtain ⟨al, cl, rfl⟩ := hos.shape
    have HP := Lib.hid hps
    have HU := Lib.hid hu
    have HO := Lib.hid hos
    have HB := Lib.hid hbel
    have HRun := Lib.hid hrun
    have HPL := Lib.hid hpl
    have HGK := Lib.hid hgk
    clear hps hu hos hbel hrun hpl hgk d0 d1 d2 d3
    have HW := Lib.hid (wlen_any vw' wait' (n + 4) wr HP.out.wr)
    by_cases hw : 0 < wait'.length
    · obtain ⟨m, hwm⟩ : ∃ m, wait'.length = m + 1 := ⟨wait'.length - 1, by omega⟩
      have hmin : wait'.getD 0 0 ∈ wait' := getD_mem hw
      obtain ⟨i, hwi, hif, hle⟩ := HU.out.win _ hmin
      have HPop : Hid (Calls Tryd.prog 71 #[.iface 117 (.pointer (some ⟨n + 3, 4, none⟩))] wr (fun e w2 => ∃ v2 m2, e = .returned (.iface 3 (.int .i64 (i : Int))) ∧ PS n w2 (.slice av f.length cap) v2 (nh + l.length) ng (fun k => decide (k ∈ H)) (gOf f f.length 0) left' m2 ∧ m2.length + 1 = wait'.length ∧ (∀ y, y ∈ wait' ↔ y = (i : Int) ∨ y ∈ m2) ∧ OwnS w2 (n + 4) (.slice al l.length cl) l ∧ Below n w0 w2)) := by
        refine (hpop_any vw' wait' m (n + 4) (n + 3) 4 _ _ wr HP.out.wr HP.out.fld hwm (by have := HGK.out; omega) (fun e => by have := HP.out.far _ e; omega) HP.out.hh).mono ?_
        rintro e w2 ⟨v2, m2, he, hnow, hhp2, hlen2, hmem2, _⟩
        rw [hwi] at he hmem2
        exact ⟨v2, m2, he, HP.out.now hnow hhp2, hlen2, hmem2, HO.out.keepT (hnow.keepT HP.out.wr HP.out.fld), HB.out.trans (below_now hnow HP.out.far (by have := HP.out.size; omega))⟩
      have hleast : ∀ j ∈ wait', (i : Int) ≤ j := fun j hj => by
        obtain ⟨k, hk, e⟩ := (inN_mem wait' j).2 hj
        rw [← e, ← hwi]
        exact hp_least HP.out.hh k hk
      have him : (i : Int) ∈ wait' := hwi ▸ hmin
      have HLE := Lib.hid hleast
      have HIM := Lib.hid him
      have HLI := Lib.hid hle
      have hcl := HF.out.lit _ (HF.out.at hif)
      have HCL := Lib.hid hcl
      have hi2 : i < 20000 := by omega
      clear hleast him hle hcl hmin hwi hwm
      go_wp2_with (go_at_call 70; refine HW.out.mono ?_; rintro e w1 ⟨rfl, rfl⟩)
      refine HPop.out.mono ?_
      rintro e w2 ⟨v2, m2, rfl, hps2, hlen2, hmem2, hos2, hbel2⟩
      have hrem := remaining_any n w2 av cap v2 (nh + l.length) ng (fun k => decide (k ∈ H)) (gOf f f.length 0) left' m2 f i hps2 (HRR.out.below hbel2 (by omega)) hif HCL.out
      have HP2 := Lib.hid hps2
      have HM2 := Lib.hid hmem2
      have HO2 := Lib.hid hos2
      have HB2 := Lib.hid hbel2
      obtain ⟨d0, d1, d2, d3, d4⟩ := hps2.cells
      clear hps2 hmem2 hos2 hbel2 HPop HP HW HO HB d0 d2 d3
      have hcas := remL_cases H (f.getD i [])
      generalize remL (fun k => decide (k ∈ H)) (f.getD i []) = z at *
      have HRM := Lib.hid hrem
      clear hrem
      rcases hcas with ⟨hn, rfl⟩ | ⟨x, hxc, hxn, rfl⟩
      · have hcf := HU.out.conf HIM.out HLE.out hn
        have HR : Hid (RunPost n w0 f a (.returned (.tuple #[.slice al l.length cl, .int .i64 (i : Int)])) w2) := ⟨_, l, i, rfl, by have := HRun.out [] i (.conf hcf.1 hcf.2); rw [List.append_nil] at this; exact this, HO2.out, by omega, HPL.out, HB2.out⟩
        clear hn hcf
        go_wp2_with (go_at_call 72; refine HRM.out.mono ?_; rintro e w3 ⟨rfl, rfl⟩)
        go_ret2
        exact HR.out
      · obtain ⟨x0, x1, x2⟩ := litB_bd (HCL.out z hxc)
        have hzl := HCL.out z hxc
        have hz0 : (z == 0) = false := by simpa using x0
        by_cases hxH : z ∈ H
        · have hd : decide (z ∈ H) = true := by simpa using hxH
          have HS : Hid (RS n w0 f (.slice av f.length cap) nh ng a (gk - 1) (.slice al l.length cl) w2) := by
            have e1 := HGK.out
            exact ⟨v2, H, left', m2, l, HP2.out, HU.out.skip HM2.out hxc hxH, HO2.out, HB2.out, HRun.out, by omega, by omega, HPL.out⟩
          have HX := Lib.hid hxH
          clear hxH hxc hxn
          go_wp2_with (first | (go_at_call 72; refine HRM.out.mono ?_; rintro e w3 ⟨rfl, rfl⟩) | (at_lookup; refine wpList_lookB rfl _ _ 111 rfl 3 4 Tryd.underlying3 Tryd.underlying4 Tryd.underlying111 (zero_bool _) rfl HP2.out.hm z rfl (i64w (by omega) (by omega)) ?_; rw [hd]))
          go_roundg (gk - 1)
          case measure => have := HGK.out; omega
          case rel => exact HS.out
        · have hd : decide (z ∈ H) = false := by simpa using hxH
          have hu1 := HU.out.unit HIM.out HLE.out hxc hxn hxH
          have hsk : UInv f H left' wait' := HU.out
          -- the state behind the step and set
          have HS : Hid (∀ w4 lv4 w5 vw5 left5 wait5, OwnS w4 (n + 4) lv4 (l ++ [(z, i)]) → Below n w0 w4 → PS n w5 (.slice av f.length cap) vw5 (nh + l.length + 1) ng (fun j => if j = z then true else decide (j ∈ H)) (gOf f f.length 0) left5 wait5 →
              SInv left'.length left' m2 (gOf f f.length 0 (-z)) (gOf f f.length 0 (-z)).length left5 wait5 → Below n w4 w5 → KeepT w4 w5 → RS n w0 f (.slice av f.length cap) nh ng a (gk - 1) lv4 w5) := by
            intro w4 lv4 w5 vw5 left5 wait5 ho4 hb4 hp5 hs5 hb5 hk5
            have e1 := HGK.out
            have hms := hs5.ms
            rw [memH] at hp5
            have hu2 : UInv f (z :: H) left5 wait5 := by
              rw [HU.out.len] at hs5
              exact HU.out.set2 HM2.out hxc hs5 HF.out.nd (gOf_mem f (-z)) x0 hxH hxn
            refine ⟨vw5, z :: H, left5, wait5, l ++ [(z, i)], by rw [List.length_append]; exact hp5, hu2, ho4.keepT hk5, hb4.trans hb5, fun m c hr => ?_, by simp; omega, by omega, fun p hp => ?_⟩
            · rw [List.append_assoc]
              exact HRun.out _ _ (.step hu1.1 hu1.2 hr)
            · rcases List.mem_append.1 hp with h | h
              · exact HPL.out p h
              · have : p = (z, i) := by simpa using h
                rw [this]
                exact ⟨⟨x1, x2⟩, hi2⟩
          have hbd : ∀ k, k < left'.length → 0 ≤ left'.getD k 0 ∧ left'.getD k 0 ≤ 200000 := fun k hk => by
            rw [HU.out.len] at hk
            rw [HU.out.cnt k hk]
            have h1 := List.length_filter_le (fun x => decide (-x ∉ H)) (f.getD k [])
            have h2 := HF.out.small _ (HF.out.at hk)
            unfold nonF
            omega
          have HSet : Hid (∀ w4, PS n w4 (.slice av f.length cap) v2 (nh + l.length) ng (fun k => decide (k ∈ H)) (gOf f f.length 0) left' m2 → Calls Tryd.prog 73 #[.pointer (some ⟨n + 3, 0, none⟩), .int .i64 z] w4 (SetPost n w4 (.slice av f.length cap) (nh + l.length) ng (fun k => decide (k ∈ H)) (gOf f f.length 0) left' m2 z)) := fun w4 hp4 =>
            set_any n w4 _ v2 _ ng _ _ left' m2 z hp4 hzl hng (by omega) (by rw [HU.out.len]; exact hlen) (by have := HGK.out; omega) hbd (fun k hk => by rw [HU.out.len]; exact ((gOf_mem f (-z) k).1 hk).1) (gOf_nodup f (-z)) (fun y hy => by
              obtain ⟨k, e, hk, _⟩ := HU.out.win y ((HM2.out y).2 (Or.inr hy))
              exact ⟨k, e, by rw [HU.out.len]; exact hk⟩)
          have HZL := Lib.hid hzl
          clear hbd hu1 hsk hxc hxn hxH hzl
          go_wp2_with (first
            | (go_at_call 72; refine HRM.out.mono ?_; rintro e w3 ⟨rfl, rfl⟩)
            | (at_lookup; refine wpList_lookB rfl _ _ 111 rfl 3 4 Tryd.underlying3 Tryd.underlying4 Tryd.underlying111 (zero_bool _) rfl HP2.out.hm z rfl (i64w (by omega) (by omega)) ?_; rw [hd])
            | (at_builtin; refine wpList_appS rfl _ _ rfl (n + 4) _ l z i w2.heap.size rfl rfl (HO2.out.keepT (KeepT.alloc _ _)) (by simp) (by simp) (by omega) (by have := HP2.out.size; simp; omega) ?_; intro v4 w4 ho4 hg4; have hps4 := (HP2.out.alloc (.cells #[.int .i64 z, .int .i64 (i : Int)] 34)).keptT (Kept.of_grown hg4) (fun g hg e => (HO2.out.keepT (KeepT.alloc w2 _)).obj g e); have hb4 := (HB2.out.alloc (by have := HP2.out.size; omega) (.cells #[.int .i64 z, .int .i64 (i : Int)] 34)).grown hg4 (by have := HP2.out.size; simp; omega) (fun k hk => by have := (HO2.out.lt k hk).1; omega); obtain ⟨a4, c4, rfl⟩ := ho4.shape; have HO4 := Lib.hid ho4; have HB4 := Lib.hid hb4; have HP4 := Lib.hid hps4; clear ho4 hb4 hps4 hg4)
            | (go_at_call 73; refine (HSet.out _ HP4.out).mono ?_; rintro e w5 ⟨vw5, left5, wait5, rfl, hp5, hs5, hb5, hk5⟩))
          go_roundg (gk - 1)
          case measure => have := HGK.out; omega
          case rel => exact HS.out w4 _ w5 vw5 left5 wait5 (by have := HO4.out; rw [show (l ++ [(z, i)]).length = l.length + 1 from by simp] at this; exact this) HB4.out hp5 hs5 hb5 hk5
    · have hwe : wait' = [] := List.eq_nil_of_length_eq_zero (by omega)
      subst hwe
      have HR : Hid (RunPost n w0 f a (.returned (.tuple #[.slice al l.length cl, .int .i64 (-1)])) wr) := ⟨_, l, -1, rfl, by have := HRun.out [] (-1) (.done HU.out.over); rw [List.append_nil] at this; exact this, HO.out, by omega, HPL.out, HB.out⟩
      go_wp2_with (go_at_call 70; refine HW.out.mono ?_; rintro e w1 ⟨rfl, rfl⟩)
      go_ret2
      exact HR.out

end Go.Proofs.YtmhjpbhldaagmaaDoor
