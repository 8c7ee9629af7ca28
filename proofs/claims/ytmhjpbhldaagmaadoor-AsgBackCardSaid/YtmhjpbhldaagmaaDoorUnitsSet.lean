/- asg.set: a literal is made true. -/
import Derived.Test.YtmhjpbhldaagmaaDoorMgF
namespace Go.Proofs.YtmhjpbhldaagmaaDoor
open Go.RowKit
set_option linter.unusedVariables false

theorem ofN_at (l : List Nat) (k : Nat) : (ofN l).getD k 0 = ((l.getD k 0 : Nat) : Int) := by
  simp only [ofN, List.getD_eq_getElem?_getD, List.getElem?_map]
  cases l[k]? <;> rfl
theorem own_of {w : World} {B : Nat} {v : Value} {zs : List Int} (h : w.ownsInts B 3 .i64 v zs) : Own w B v zs := h.1
theorem Own.shapeL {w : World} {B : Nat} {v : Value} {xs : List Int} (h : Own w B v xs) : ∃ a cap, v = .slice a xs.length cap := by
  rcases h.2 with ⟨rfl, h2⟩ | ⟨g, cap, cur, rfl, _⟩
  · exact ⟨none, 0, by rw [h2]⟩
  · exact ⟨_, _, rfl⟩

/-- What set leaves. -/
def SetPost (n : Nat) (w : World) (vf : Value) (nh ng : Nat) (Hf : Int → Bool) (G : Int → List Nat) (left wait : List Int) (x : Int) (e : Ending) (w' : World) : Prop :=
  ∃ vw' left' wait', e = .returned (.tuple #[]) ∧ PS n w' vf vw' (nh + 1) ng (fun j => if j = x then true else Hf j) G left' wait' ∧ SInv left.length left wait (G (-x)) (G (-x)).length left' wait' ∧ Below n w w' ∧ KeepT w w'

set_option maxHeartbeats 3200000 in
set_option maxRecDepth 100000 in
theorem set_any (n : Nat) (w : World) (vf vw : Value) (nh ng : Nat) (Hf : Int → Bool) (G : Int → List Nat) (left wait : List Int) (x : Int)
    (s : PS n w vf vw nh ng Hf G left wait) (hx : litB x = true) (hng : ng ≤ 1000000) (hnh : nh ≤ 1000000) (hll : left.length ≤ 20000) (hwl : bigs left + wait.length ≤ 20000)
    (hb : ∀ i, i < left.length → 0 ≤ left.getD i 0 ∧ left.getD i 0 ≤ 200000) (hgl : ∀ i ∈ G (-x), i < left.length) (hnd : (G (-x)).Nodup) (hwn : ∀ y ∈ wait, ∃ i : Nat, y = i ∧ i < left.length) :
    Calls Tryd.prog 73 #[.pointer (some ⟨n + 3, 0, none⟩), .int .i64 x] w (SetPost n w vf nh ng Hf G left wait x) := by
  obtain ⟨x0, x1, x2⟩ := litB_bd hx
  obtain ⟨c0, c1, c2, c3, c4⟩ := s.cells
  have hsz := s.size
  have HS := Lib.hid s
  have HB := Lib.hid hb
  have HGL := Lib.hid hgl
  have HND := Lib.hid hnd
  have HWL := Lib.hid hwl
  have HST := Lib.hid (SInv.start (wait0 := wait) (G (-x)) rfl hwn)
  have HLL := Lib.hid hll
  clear s hb hgl hnd hwl c0 c3 c4 hx hwn hll
  go_enter Tryd.func73, Tryd.ntmps73
  go_wp2_with (first
    | (at_mapUpdate; refine wpList_putB rfl _ _ _ 111 rfl 3 4 Tryd.underlying3 Tryd.underlying4 Tryd.underlying111 rfl HS.out.hm (by unfold maxLen; omega) x true rfl rfl (i64w (by omega) (by omega)) ?_; intro w1 m1 k1; have hs1 := HS.out.putH k1 m1; have hc2 := (k1.cell (p := ⟨n + 3, 2, none⟩) (by simp; omega) (by simp)).trans c2; obtain ⟨v, hrunV, hoV, _, hshV, _⟩ := hs1.gm.at (t := 112) Tryd.underlying3 Tryd.underlying112 (zero_ints _) (by unfold maxLen; omega) (-x) (i64w (by omega) (by omega)); obtain ⟨av, cv, rfl⟩ := (own_of hoV).shapeL; have HS1 := Lib.hid hs1; have HO := Lib.hid hoV; have HSH := Lib.hid hshV; have HB1 := Lib.hid (k1.below (B := n) (by omega) (fun i hi e => by omega)); have HKT := Lib.hid (KeepT.of_kept k1 (fun g hg cur fz e => HS.out.hm.noT cur fz (by rw [hg] at e; exact e))); clear hs1 m1 k1 hoV hshV)
    | (at_lookup; refine wpList_lookG rfl _ _ 112 rfl (-x) rfl rfl hrunV ?_))
  go_loopw [19] (fun si wr => ∃ (k : Nat) (vw' : Value) (left' wait' : List Int), k ≤ (ofN (G (-x))).length ∧ si = .int .i64 k ∧ PS n wr vf vw' (nh + 1) ng (fun j => if j = x then true else Hf j) G left' wait' ∧ SInv left.length left wait (G (-x)) k left' wait' ∧ Below n w wr ∧
      wr.ownsInts (n + 4) 3 .i64 (.slice av (ofN (G (-x))).length cv) (ofN (G (-x))) ∧ KeepT w wr ∧ ∀ g, (Value.slice av (ofN (G (-x))).length cv).ownBlock = some g → vw'.ownBlock ≠ some g) (fun si wr => (ofN (G (-x))).length - (intOf si).toNat)
  case atStart => exact ⟨0, vw, left, wait, Nat.zero_le _, rfl, HS1.out, HST.out, HB1.out, HO.out, HKT.out, fun g hg => HSH.out g hg⟩
  case round =>
    obtain ⟨k, vw', left', wait', hk, rfl, hps, hsi, hbel, hoi, hkt, hsh⟩ := hrel
    by_cases hlt : k < (ofN (G (-x))).length
    · have hlt2 : k < (G (-x)).length := by rw [ofN_len] at hlt; exact hlt
      obtain ⟨gv, cg, ev, _, _⟩ := (own_of hoi).at (by omega)
      injection ev with e1 _ e3
      subst e1; subst e3
      have hy := (own_of hoi).cell k hlt
      rw [ofN_at] at hy
      have him : (G (-x)).getD k 0 ∈ G (-x) := by simp [List.getD, hlt2]
      have hil := HGL.out _ him
      have hln := hsi.len
      have hil2 : (G (-x)).getD k 0 < left'.length := by omega
      have hcl := hps.lr.cell ((G (-x)).getD k 0) (by omega)
      have hfz := hps.lr.frozen ((G (-x)).getD k 0)
      have hlf := hsi.lf _ hil
      have hbb := HB.out _ hil
      obtain ⟨d0, d1, d2, d3, d4⟩ := hps.cells
      have hpz := hps.size
      have hval : -1 ≤ left'.getD ((G (-x)).getD k 0) 0 ∧ left'.getD ((G (-x)).getD k 0) 0 ≤ 200000 := by rw [hlf]; split <;> omega
      obtain ⟨hv1, hv2⟩ := hval
      have hps2 := hps.setLeft ((G (-x)).getD k 0) (left'.getD ((G (-x)).getD k 0) 0 - 1)
      have HP2 := Lib.hid hps2
      have HSI := Lib.hid (fun wait'' h => hsi.step HND.out hlt2 hil wait'' h)
      have HMS := Lib.hid hsi.ms
      have HNN := Lib.hid hsi.nn
      have HLN := Lib.hid hln
      have hoi2 : (wr.setCell ⟨n + 2, (G (-x)).getD k 0, none⟩ (.int .i64 (left'.getD ((G (-x)).getD k 0) 0 - 1))).ownsInts (n + 4) 3 .i64 (.slice (some ⟨gv, 0, none⟩) (ofN (G (-x))).length cv) (ofN (G (-x))) :=
        ⟨(Kept.setCell wr ⟨n + 2, (G (-x)).getD k 0, none⟩ _).row hoi.1 (fun g hg e => by have := (hoi.1.lt g hg).1; simp at e; omega), hoi.2⟩
      have HOI := Lib.hid hoi2
      have HSH2 := Lib.hid hsh
      have HKT2 := Lib.hid (hkt.trans (KeepT.of_kept (Kept.setCell wr ⟨n + 2, (G (-x)).getD k 0, none⟩ (.int .i64 (left'.getD ((G (-x)).getD k 0) 0 - 1))) (fun g hg => hps.lr.noT g (by simp at hg; rw [hg]; rfl))))
      have HB2 := Lib.hid (hbel.setCell (p := ⟨n + 2, (G (-x)).getD k 0, none⟩) (by simp) (.int .i64 (left'.getD ((G (-x)).getD k 0) 0 - 1)))
      clear hkt
      clear hlf hbb hps2 hps hsi hoi hoi2 hsh hbel d0 d1 d2 d4 him hln
      generalize left'.getD ((G (-x)).getD k 0) 0 = y at *
      generalize (G (-x)).getD k 0 = i at *
      by_cases hpush : y - 1 = 1
      · obtain rfl : y = 2 := by omega
        have e21 : (2 : Int) - 1 = 1 := by decide
        rw [e21] at HP2 HOI HB2 HSI HKT2
        clear hpush e21
        have HC := Lib.hid (hpush_any vw' wait' (i : Int) (n + 4) (n + 3) 4 _ _ _ HP2.out.wr HP2.out.fld (by have := HWL.out; have := HMS.out; omega) (by have := HP2.out.size; omega) (fun e => by have := HP2.out.far _ e; omega) HP2.out.hh)
        go_wp2_with (go_at_call 69; refine HC.out.mono ?_; rintro e w3 ⟨v3, m3, rfl, hnow3, hhp3, hlen3, hmem3⟩)
        go_roundw
        case rel =>
          have hs3 := HP2.out.now hnow3 hhp3
          obtain ⟨ho3, hsh3⟩ := ints_now hnow3 HOI.out HSH2.out
          exact ⟨k + 1, v3, left'.set i 1, m3, by omega, by go_num, hs3, HSI.out m3 (by rw [if_pos trivial]; exact ⟨hmem3, hlen3⟩), HB2.out.trans (below_now hnow3 HP2.out.far (by have := HP2.out.size; omega)), ho3, HKT2.out.trans (hnow3.keepT HP2.out.wr HP2.out.fld), hsh3⟩
        case measure => simp [intOf]; omega
      · have hp' : (y - 1 == 1) = false := by simpa using hpush
        go_wp2
        go_roundw
        case rel => exact ⟨k + 1, vw', left'.set i (y - 1), wait', by omega, by go_num, HP2.out, HSI.out wait' (by rw [if_neg hpush]), HB2.out, HOI.out, HKT2.out, HSH2.out⟩
        case measure => simp [intOf]; omega
    · have hkk : k = (G (-x)).length := by rw [ofN_len] at hlt hk; omega
      subst hkk
      have HR : Hid (SetPost n w vf nh ng Hf G left wait x (.returned (.tuple #[])) wr) := ⟨vw', left', wait', rfl, hps, hsi, hbel, hkt⟩
      clear hps hsi hoi hsh hbel hkt
      go_wp2
      go_end0
      exact HR.out

end Go.Proofs.YtmhjpbhldaagmaaDoor
