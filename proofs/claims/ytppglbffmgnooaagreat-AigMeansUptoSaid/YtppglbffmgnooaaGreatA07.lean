/- Joined texts: AgOps, AgNew, AgPlace, AgImg. -/
import Derived.Test.YtppglbffmgnooaaGreatA06
import Derived.Test.YtppglbffmgnooaaGreatA03
import Derived.Test.YtppglbffmgnooaaGreatShelf
import Derived.Test.YtppglbffmgnooaaGreatK09
/- (*Maker).or, xor, ite, all, any. -/
namespace Go.Proofs.YtppglbffmgnooaaGreat
open Go.RowKit Go.Maps
set_option linter.unusedVariables false
set_option linter.unusedSimpArgs false

def MkE (w : World) (B pm : Nat) (I : List Int) (s : Mq) (vi : Value) (bf sl : Nat) : Prop := ∃ va n, MkS w B pm I s vi va bf n sl
theorem MkE.ok {w : World} {B pm : Nat} {I : List Int} {s : Mq} {vi : Value} {bf sl : Nat} (h : MkE w B pm I s vi bf sl) : MOk (1 + I.length) s := by obtain ⟨_, _, h⟩ := h; exact h.ok
theorem edge_bd {k : Nat} {s : Mq} {e : Int} (h : MOk k s) (he : isE e (k + s.1.length) = true) : 0 ≤ e ∧ e ≤ 4000000 := by
  rw [isE_true] at he
  have := h.room
  omega
theorem and_e {w : World} {B pm : Nat} {I : List Int} {s : Mq} {vi : Value} {bf sl : Nat} {a b : Int} (H : MkE w B pm I s vi bf sl) (hB : B ≤ w.heap.size)
    (ha : isE a (1 + I.length + s.1.length) = true) (hb : isE b (1 + I.length + s.1.length) = true) :
    Calls Tryz.prog 139 #[.pointer (some ⟨pm, 0, none⟩), .int .i64 a, .int .i64 b] w (AndPost w B pm I vi bf sl (conjA (1 + I.length) s a b)) := by
  obtain ⟨va, n, H⟩ := H
  exact and_any w B pm I s vi va bf n sl a b H hB ha hb
set_option maxRecDepth 100000 in
set_option maxHeartbeats 1600000 in
theorem or_e {w : World} {B pm : Nat} {I : List Int} {s : Mq} {vi : Value} {bf sl : Nat} {a b : Int} (H : MkE w B pm I s vi bf sl) (hB : B ≤ w.heap.size)
    (ha : isE a (1 + I.length + s.1.length) = true) (hb : isE b (1 + I.length + s.1.length) = true) :
    Calls Tryz.prog 141 #[.pointer (some ⟨pm, 0, none⟩), .int .i64 a, .int .i64 b] w (AndPost w B pm I vi bf sl (disjA (1 + I.length) s a b)) := by
  have ba := edge_bd H.ok ha
  have bb := edge_bd H.ok hb
  have HO1 := Lib.hid (opposite_any a w ba.1 ba.2)
  have HO2 := Lib.hid (opposite_any b w bb.1 bb.2)
  have hmd := conjA_made (k := 1 + I.length) H.ok (by omega) (notE_isE ha) (notE_isE hb)
  have HA := Lib.hid (and_e H hB (notE_isE ha) (notE_isE hb))
  have HR : Hid (disjA (1 + I.length) s a b = (notE (conjA (1 + I.length) s (notE a) (notE b)).1, (conjA (1 + I.length) s (notE a) (notE b)).2)) := rfl
  generalize conjA (1 + I.length) s (notE a) (notE b) = r at *
  obtain ⟨r1, r2⟩ := r
  have br := edge_bd hmd.ok hmd.edge
  have HO3 := Lib.hid (fun X => opposite_any r1 X br.1 br.2)
  clear ba bb br hmd ha hb H
  generalize notE a = na at *
  generalize notE b = nb at *
  generalize notE r1 = nr at *
  unfold AndPost at HA ⊢
  go_enter Tryz.func141, Tryz.ntmps141
  go_wp2_with (first
    | (go_at_call 139; refine HA.out.mono ?_; rintro e w1 ⟨rfl, hm1, hk1⟩; have HM1 := Lib.hid hm1; have HK1 := Lib.hid hk1; clear hm1 hk1)
    | (go_at_call 70; refine (HO3.out w1).mono ?_; rintro e w2 ⟨rfl, rfl⟩)
    | (go_at_call_of 70 (Value.int .i64 a); refine HO1.out.mono ?_; rintro e w2 ⟨rfl, rfl⟩)
    | (go_at_call 70; refine HO2.out.mono ?_; rintro e w2 ⟨rfl, rfl⟩))
  go_ret
  exact ⟨by rw [HR.out]; rfl, by rw [HR.out]; exact HM1.out, HK1.out⟩
set_option maxRecDepth 100000 in
set_option maxHeartbeats 1600000 in
theorem xor_e {w : World} {B pm : Nat} {I : List Int} {s : Mq} {vi : Value} {bf sl : Nat} {a b : Int} (H : MkE w B pm I s vi bf sl) (hB : B ≤ w.heap.size)
    (ha : isE a (1 + I.length + s.1.length) = true) (hb : isE b (1 + I.length + s.1.length) = true) :
    Calls Tryz.prog 143 #[.pointer (some ⟨pm, 0, none⟩), .int .i64 a, .int .i64 b] w (AndPost w B pm I vi bf sl (exclA (1 + I.length) s a b)) := by
  have ba := edge_bd H.ok ha
  have bb := edge_bd H.ok hb
  have HO1 := Lib.hid (fun X => opposite_any a X ba.1 ba.2)
  have HO2 := Lib.hid (opposite_any b w bb.1 bb.2)
  have h1 := conjA_made (k := 1 + I.length) H.ok (by omega) ha (notE_isE hb)
  have HA1 := Lib.hid (and_e H hB ha (notE_isE hb))
  have h2 := conjA_made (k := 1 + I.length) h1.ok (by omega) (notE_isE (h1.more ha)) (h1.more hb)
  have HA2 := Lib.hid (fun X (hm : MkE X B pm I (conjA (1 + I.length) s a (notE b)).2 vi bf sl) (hx : B ≤ X.heap.size) => and_e hm hx (notE_isE (h1.more ha)) (h1.more hb))
  have HA3 := Lib.hid (fun X (hm : MkE X B pm I (conjA (1 + I.length) (conjA (1 + I.length) s a (notE b)).2 (notE a) b).2 vi bf sl) (hx : B ≤ X.heap.size) => or_e hm hx (h2.more h1.edge) h2.edge)
  have HR : Hid (exclA (1 + I.length) s a b = disjA (1 + I.length) (conjA (1 + I.length) (conjA (1 + I.length) s a (notE b)).2 (notE a) b).2 (conjA (1 + I.length) s a (notE b)).1 (conjA (1 + I.length) (conjA (1 + I.length) s a (notE b)).2 (notE a) b).1) := rfl
  clear ba bb h1 h2 ha hb H
  generalize conjA (1 + I.length) (conjA (1 + I.length) s a (notE b)).2 (notE a) b = r2 at *
  generalize conjA (1 + I.length) s a (notE b) = r1 at *
  generalize disjA (1 + I.length) r2.2 r1.1 r2.1 = r3 at *
  obtain ⟨x1, s1⟩ := r1
  obtain ⟨x2, s2⟩ := r2
  obtain ⟨x3, s3⟩ := r3
  generalize notE a = na at *
  generalize notE b = nb at *
  unfold AndPost at HA1 HA2 HA3 ⊢
  go_enter Tryz.func143, Tryz.ntmps143
  go_wp2_with (first
    | (go_at_call 141; refine (HA3.out w2 HM2.out (Nat.le_trans hB HK2.out.below.size)).mono ?_; rintro e w3 ⟨rfl, hm3, hk3⟩; have HM3 := Lib.hid hm3; have HK3 := Lib.hid (HK2.out.trans hk3); clear hm3 hk3)
    | (go_at_call 139; refine (HA2.out w1 HM1.out (Nat.le_trans hB HK1.out.below.size)).mono ?_; rintro e w2 ⟨rfl, hm2, hk2⟩; have HM2 := Lib.hid hm2; have HK2 := Lib.hid (HK1.out.trans hk2); clear hm2 hk2)
    | (go_at_call 139; refine HA1.out.mono ?_; rintro e w1 ⟨rfl, hm1, hk1⟩; have HM1 := Lib.hid hm1; have HK1 := Lib.hid hk1; clear hm1 hk1)
    | (go_at_call 70; refine (HO1.out w1).mono ?_; rintro e w9 ⟨rfl, rfl⟩)
    | (go_at_call 70; refine HO2.out.mono ?_; rintro e w9 ⟨rfl, rfl⟩))
  go_ret
  exact ⟨by rw [HR.out]; rfl, by rw [HR.out]; exact HM3.out, HK3.out⟩
set_option maxRecDepth 100000 in
set_option maxHeartbeats 1600000 in
theorem ite_e {w : World} {B pm : Nat} {I : List Int} {s : Mq} {vi : Value} {bf sl : Nat} {c a b : Int} (H : MkE w B pm I s vi bf sl) (hB : B ≤ w.heap.size)
    (hc : isE c (1 + I.length + s.1.length) = true) (ha : isE a (1 + I.length + s.1.length) = true) (hb : isE b (1 + I.length + s.1.length) = true) :
    Calls Tryz.prog 162 #[.pointer (some ⟨pm, 0, none⟩), .int .i64 c, .int .i64 a, .int .i64 b] w (AndPost w B pm I vi bf sl (iteA (1 + I.length) s c a b)) := by
  have bc := edge_bd H.ok hc
  have HO1 := Lib.hid (fun X => opposite_any c X bc.1 bc.2)
  have h1 := conjA_made (k := 1 + I.length) H.ok (by omega) hc ha
  have HA1 := Lib.hid (and_e H hB hc ha)
  have h2 := conjA_made (k := 1 + I.length) h1.ok (by omega) (notE_isE (h1.more hc)) (h1.more hb)
  have HA2 := Lib.hid (fun X (hm : MkE X B pm I (conjA (1 + I.length) s c a).2 vi bf sl) (hx : B ≤ X.heap.size) => and_e hm hx (notE_isE (h1.more hc)) (h1.more hb))
  have HA3 := Lib.hid (fun X (hm : MkE X B pm I (conjA (1 + I.length) (conjA (1 + I.length) s c a).2 (notE c) b).2 vi bf sl) (hx : B ≤ X.heap.size) => or_e hm hx (h2.more h1.edge) h2.edge)
  have HR : Hid (iteA (1 + I.length) s c a b = disjA (1 + I.length) (conjA (1 + I.length) (conjA (1 + I.length) s c a).2 (notE c) b).2 (conjA (1 + I.length) s c a).1 (conjA (1 + I.length) (conjA (1 + I.length) s c a).2 (notE c) b).1) := rfl
  clear bc h1 h2 ha hb hc H
  generalize conjA (1 + I.length) (conjA (1 + I.length) s c a).2 (notE c) b = r2 at *
  generalize conjA (1 + I.length) s c a = r1 at *
  generalize disjA (1 + I.length) r2.2 r1.1 r2.1 = r3 at *
  obtain ⟨x1, s1⟩ := r1
  obtain ⟨x2, s2⟩ := r2
  obtain ⟨x3, s3⟩ := r3
  generalize notE c = nc at *
  unfold AndPost at HA1 HA2 HA3 ⊢
  go_enter Tryz.func162, Tryz.ntmps162
  go_wp2_with (first
    | (go_at_call 141; refine (HA3.out w2 HM2.out (Nat.le_trans hB HK2.out.below.size)).mono ?_; rintro e w3 ⟨rfl, hm3, hk3⟩; have HM3 := Lib.hid hm3; have HK3 := Lib.hid (HK2.out.trans hk3); clear hm3 hk3)
    | (go_at_call 139; refine (HA2.out w1 HM1.out (Nat.le_trans hB HK1.out.below.size)).mono ?_; rintro e w2 ⟨rfl, hm2, hk2⟩; have HM2 := Lib.hid hm2; have HK2 := Lib.hid (HK1.out.trans hk2); clear hm2 hk2)
    | (go_at_call 139; refine HA1.out.mono ?_; rintro e w1 ⟨rfl, hm1, hk1⟩; have HM1 := Lib.hid hm1; have HK1 := Lib.hid hk1; clear hm1 hk1)
    | (go_at_call 70; refine (HO1.out w1).mono ?_; rintro e w9 ⟨rfl, rfl⟩))
  go_ret
  exact ⟨by rw [HR.out]; rfl, by rw [HR.out]; exact HM3.out, HK3.out⟩

theorem allA_snoc (k : Nat) (l : List Int) (e : Int) (s : Mq) (x : Int) : allA k (l ++ [e]) s x = conjA k (allA k l s x).2 (allA k l s x).1 e := by
  unfold allA
  rw [List.foldl_append]
  rfl
set_option maxRecDepth 100000 in
set_option maxHeartbeats 1600000 in
theorem all_e {w : World} {B pm : Nat} {I : List Int} {s : Mq} {vi vl : Value} {bf sl : Nat} {l : List Int} (H : MkE w B pm I s vi bf sl) (hB : B ≤ w.heap.size)
    (HL : ∀ X, KpM B pm bf w X → IsInts X vl l) (hl : ∀ e ∈ l, isE e (1 + I.length + s.1.length) = true) (hll : l.length ≤ 4000000) :
    Calls Tryz.prog 165 #[.pointer (some ⟨pm, 0, none⟩), vl] w (AndPost w B pm I vi bf sl (allA (1 + I.length) l s 1)) := by
  have h0 := HL w (KpM.refl _ _ _ _)
  have hk1 : isE 1 (1 + I.length + s.1.length) = true := isE_true.2 ⟨by omega, by omega⟩
  have HOK := Lib.hid H.ok
  obtain ⟨a, cap, rfl⟩ := h0.shape
  have HLL := Lib.hid HL
  have HE1 := Lib.hid hl
  have HH := Lib.hid H
  have HK1 := Lib.hid hk1
  clear HL hl H h0 hk1
  unfold AndPost
  go_enter Tryz.func165, Tryz.ntmps165
  go_wp2
  go_loopw [5, 10] (fun x i wr => ∃ k : Nat, k ≤ l.length ∧ i = .int .i64 k ∧ x = .int .i64 (allA (1 + I.length) (l.take k) s 1).1 ∧ MkE wr B pm I (allA (1 + I.length) (l.take k) s 1).2 vi bf sl ∧ KpM B pm bf w wr) (fun _ i _ => l.length - (intOf i).toNat)
  case atStart => exact ⟨0, Nat.zero_le _, rfl, rfl, HH.out, KpM.refl _ _ _ _⟩
  case round =>
    obtain ⟨k, hk, rfl, rfl, hm, hkp⟩ := hrel
    have HM := Lib.hid hm
    have HK := Lib.hid hkp
    clear hm hkp
    by_cases hlt : k < l.length
    · obtain ⟨b, off, rfl, hb, hc⟩ := (HLL.out wr HK.out).cellY hlt
      have hmd := allA_made (k := 1 + I.length) (by omega) (l.take k) s 1 HOK.out HK1.out (fun e he => HE1.out e (List.mem_of_mem_take he))
      have HTS : Hid (allA (1 + I.length) (l.take (k + 1)) s 1 = conjA (1 + I.length) (allA (1 + I.length) (l.take k) s 1).2 (allA (1 + I.length) (l.take k) s 1).1 (l.getD k 0)) := by show _ = _; rw [ints_take_succ hlt, allA_snoc]
      have hel := hmd.more (HE1.out _ (ints_getD_mem hlt))
      have HA := Lib.hid (and_e HM.out (Nat.le_trans hB HK.out.below.size) hmd.edge hel)
      have HKL := Lib.hid hlt
      have hkb : k < 4000000 := by omega
      clear hmd hel hlt
      generalize l.getD k 0 = y at *
      generalize allA (1 + I.length) (l.take k) s 1 = r at *
      generalize conjA (1 + I.length) r.2 r.1 y = r3 at *
      obtain ⟨x1, s1⟩ := r
      obtain ⟨x3, s3⟩ := r3
      unfold AndPost at HA
      go_wp2_with (go_at_call 139; refine HA.out.mono ?_; rintro e w1 ⟨rfl, hm1, hk1⟩; have HM1 := Lib.hid hm1; have HK1 := Lib.hid (HK.out.trans hk1); clear hm1 hk1)
      go_roundw
      case rel => exact ⟨k + 1, HKL.out, by go_num, by rw [HTS.out], by rw [HTS.out]; exact HM1.out, HK1.out⟩
      case measure => have := HKL.out; simp [intOf]; omega
    · obtain rfl : k = l.length := by omega
      rw [List.take_length] at HM ⊢
      go_wp2
      go_ret
      exact ⟨rfl, HM.out, HK.out⟩
/-- The disjunction of edges. -/
def anyA (k : Nat) (l : List Int) (s : Mq) : Int × Mq := let r := allA k (l.map notE) s 1; (notE r.1, r.2)
set_option maxRecDepth 100000 in
set_option maxHeartbeats 1600000 in
theorem any_e {w : World} {B pm : Nat} {I : List Int} {s : Mq} {vi vl : Value} {bf sl : Nat} {l : List Int} (H : MkE w B pm I s vi bf sl) (hB : B ≤ w.heap.size)
    (HL : ∀ X, KpM B pm bf w X → IsInts X vl l) (hl : ∀ e ∈ l, isE e (1 + I.length + s.1.length) = true) (hll : l.length ≤ 4000000) :
    Calls Tryz.prog 168 #[.pointer (some ⟨pm, 0, none⟩), vl] w (AndPost w B pm I vi bf sl (anyA (1 + I.length) l s)) := by
  have h0 := HL w (KpM.refl _ _ _ _)
  have hk1 : isE 1 (1 + I.length + s.1.length) = true := isE_true.2 ⟨by omega, by omega⟩
  have HOK := Lib.hid H.ok
  obtain ⟨a, cap, rfl⟩ := h0.shape
  have HLL := Lib.hid HL
  have HE1 := Lib.hid hl
  have HH := Lib.hid H
  have HK1 := Lib.hid hk1
  clear HL hl H h0 hk1
  unfold AndPost
  go_enter Tryz.func168, Tryz.ntmps168
  go_wp2
  go_loopw [5, 10] (fun x i wr => ∃ k : Nat, k ≤ l.length ∧ i = .int .i64 k ∧ x = .int .i64 (allA (1 + I.length) ((l.take k).map notE) s 1).1 ∧ MkE wr B pm I (allA (1 + I.length) ((l.take k).map notE) s 1).2 vi bf sl ∧ KpM B pm bf w wr) (fun _ i _ => l.length - (intOf i).toNat)
  case atStart => exact ⟨0, Nat.zero_le _, rfl, rfl, HH.out, KpM.refl _ _ _ _⟩
  case round =>
    obtain ⟨k, hk, rfl, rfl, hm, hkp⟩ := hrel
    have HM := Lib.hid hm
    have HK := Lib.hid hkp
    clear hm hkp
    by_cases hlt : k < l.length
    · obtain ⟨b, off, rfl, hb, hc⟩ := (HLL.out wr HK.out).cellY hlt
      have hmd := allA_made (k := 1 + I.length) (by omega) ((l.take k).map notE) s 1 HOK.out HK1.out (fun e he => by obtain ⟨z, hz, rfl⟩ := List.mem_map.1 he; exact notE_isE (HE1.out z (List.mem_of_mem_take hz)))
      have HTS : Hid (allA (1 + I.length) ((l.take (k + 1)).map notE) s 1 = conjA (1 + I.length) (allA (1 + I.length) ((l.take k).map notE) s 1).2 (allA (1 + I.length) ((l.take k).map notE) s 1).1 (notE (l.getD k 0))) := by show _ = _; rw [ints_take_succ hlt, List.map_append, List.map_singleton, allA_snoc]
      have hel := hmd.more (notE_isE (HE1.out _ (ints_getD_mem hlt)))
      have hyb := edge_bd HOK.out (HE1.out _ (ints_getD_mem hlt))
      have HOP := Lib.hid (fun X => opposite_any (l.getD k 0) X hyb.1 hyb.2)
      clear hyb
      have HA := Lib.hid (and_e HM.out (Nat.le_trans hB HK.out.below.size) hmd.edge hel)
      have HKL := Lib.hid hlt
      have hkb : k < 4000000 := by omega
      clear hmd hel hlt
      generalize l.getD k 0 = y at *
      generalize allA (1 + I.length) ((l.take k).map notE) s 1 = r at *
      generalize notE y = ny at *
      generalize conjA (1 + I.length) r.2 r.1 ny = r3 at *
      obtain ⟨x1, s1⟩ := r
      obtain ⟨x3, s3⟩ := r3
      unfold AndPost at HA
      go_wp2_with (first
        | (go_at_call 139; refine HA.out.mono ?_; rintro e w1 ⟨rfl, hm1, hk1⟩; have HM1 := Lib.hid hm1; have HK1 := Lib.hid (HK.out.trans hk1); clear hm1 hk1)
        | (go_at_call 70; refine (HOP.out wr).mono ?_; rintro e w9 ⟨rfl, rfl⟩))
      go_roundw
      case rel => exact ⟨k + 1, HKL.out, by go_num, by rw [HTS.out], by rw [HTS.out]; exact HM1.out, HK1.out⟩
      case measure => have := HKL.out; simp [intOf]; omega
    · obtain rfl : k = l.length := by omega
      rw [List.take_length] at HM ⊢
      have hmd := allA_made (k := 1 + I.length) (by omega) (l.map notE) s 1 HOK.out HK1.out (fun e he => by obtain ⟨z, hz, rfl⟩ := List.mem_map.1 he; exact notE_isE (HE1.out z hz))
      have hbe := edge_bd hmd.ok hmd.edge
      have HR : Hid (anyA (1 + I.length) l s = (notE (allA (1 + I.length) (l.map notE) s 1).1, (allA (1 + I.length) (l.map notE) s 1).2)) := rfl
      clear hmd
      generalize allA (1 + I.length) (l.map notE) s 1 = r at *
      obtain ⟨x1, s1⟩ := r
      have HOP := Lib.hid (opposite_any x1 wr hbe.1 hbe.2)
      clear hbe
      generalize notE x1 = nx at *
      go_wp2_with (go_at_call 70; refine HOP.out.mono ?_; rintro e w9 ⟨rfl, rfl⟩)
      go_ret
      exact ⟨by rw [HR.out]; rfl, by rw [HR.out]; exact HM.out, HK.out⟩
end Go.Proofs.YtppglbffmgnooaaGreat

/- aig.maker of a graph without Ands, New. -/
namespace Go.Proofs.YtppglbffmgnooaaGreat
open Go.RowKit Go.Maps
set_option linter.unusedVariables false
set_option linter.unusedSimpArgs false
attribute [local go_sem] drew_cellq drew_frozenq

/-- The maker, once it knows itself. -/
theorem maker_set {W : World} {B pm bf : Nat} {I : List Int} {v1 v2 : Value} (hb : W.heap[pm]? = some (.cells #[.pointer none, v1, v2, .map (some bf), .bool false] 111 (0, 0))) (hpm : B ≤ pm) (h1 : Own W B v1 I) (h64 : In64 I) (hl : I.length ≤ 4000000) (h2 : OwnP W B v2 []) (hm : MapP W bf 0 (fun _ => none)) (hbf : B ≤ bf) (hr : 1 + I.length ≤ 200000) :
    MkS (W.setCell ⟨pm, 0, none⟩ (.pointer (some ⟨pm, 0, none⟩))) B pm I ([], false) v1 v2 bf 0 0 := by
  have hk := Kept.setCell W ⟨pm, 0, none⟩ (.pointer (some ⟨pm, 0, none⟩))
  refine ⟨?_, .inl (own_turn h1 (fun g cur hg => heap_set_other 0 _ (fun e => by rw [e, hb] at hg; simp only [Option.some.injEq, Obj.cells.injEq] at hg; exact absurd hg.2.1 (by decide)))), h64, hl, h2.kept hk (fun g hg e => ?_), (hm.kept hk (fun e => ?_)).congr (fun p hp => rfl), by simp, by omega, ⟨rfl, by simpa using hr⟩, (fun p hp => (by cases hp)), ⟨hpm, hbf⟩⟩
  · rw [heap_set_same hb]
    rfl
  · obtain ⟨cur, hc⟩ := h2.obj hg
    rw [show g = pm from e, hb] at hc
    simp only [Option.some.injEq, Obj.cells.injEq] at hc
    exact absurd hc.2.1 (by decide)
  · obtain ⟨es, clock, hmm⟩ := hm.obj
    rw [show bf = pm from e, hb] at hmm
    simp at hmm
theorem MkS.lower {w : World} {B B' pm : Nat} {I : List Int} {s : Mq} {vi va : Value} {bf n sl : Nat} (h : MkS w B pm I s vi va bf n sl) (hB : B' ≤ B) : MkS w B' pm I s vi va bf n sl :=
  ⟨h.box, h.ins.elim (fun e => .inl (e.mono hB)) .inr, h.i64, h.il, h.row.mono hB, h.map, h.cap, h.slk, h.ok, h.inp, Nat.le_trans hB h.lb.1, Nat.le_trans hB h.lb.2⟩
set_option maxRecDepth 100000 in
set_option maxHeartbeats 3200000 in
theorem maker0_any (vi va : Value) (I : List Int) (w : World) (HI : IsInts w vi I) (HA : IsPairs w va []) (hI : insB I = true) (hl : 1 + I.length ≤ 200000) :
    Calls Tryz.prog 91 #[.agg #[vi, va]] w fun r w' => ∃ pm vi' bf, r = .returned (.pointer (some ⟨pm, 0, none⟩)) ∧ MkE w' w.heap.size pm I ([], false) vi' bf 0 ∧ Below w.heap.size w w' := by
  have hb0 := below_alloc1 w (.cells #[vi, va] 25)
  have hsz : (w.alloc (.cells #[vi, va] 25)).heap.size = w.heap.size + 1 := by simp
  have hbx := boxA_new w vi va
  have HI1 := Lib.hid (HI.below hb0 (Nat.le_refl _))
  have HA1 := Lib.hid (HA.below hb0 (Nat.le_refl _))
  have HI64 := Lib.hid HI.in64
  obtain ⟨ia, ic, rfl⟩ := HI.shape
  obtain ⟨aa, ac, rfl, _⟩ := HA.shape
  have hmm := @run_makeMap Tryz.prog
  clear HI HA
  go_enter Tryz.func91, Tryz.ntmps91
  go_upto_region 1 with fail
  generalize World.alloc w _ = W at *
  have HB0 := Lib.hid hb0
  have HBX := Lib.hid hbx
  have HSZ := Lib.hid hsz
  clear hb0 hsz hbx
  have HC1 : Hid (∀ X, Below W.heap.size W X → Calls Tryz.prog 93 #[.slice ia I.length ic] X (RetOwn X I)) := fun X hX => gclone_any _ I X (HI1.out.below hX (Nat.le_refl _))
  have HC2 : Hid (∀ X, Below W.heap.size W X → Calls Tryz.prog 119 #[.slice aa [].length ac] X (RetOwnP X [])) := fun X hX => gclonep_any _ [] X (HA1.out.below hX (Nat.le_refl _)) (by simp)
  unfold RetOwn at HC1
  unfold RetOwnP at HC2
  refine wp_region_held_drew (S := fun X : World => Below W.heap.size W X) (by kernel_rfl) ((Below.refl _ _).drew) (fun hSd => ?_)
  refine takeC (i := 0) (v := .pointer (some ⟨w.heap.size, 0, none⟩)) (some 8) rfl rfl (by kernel_rfl) (by kernel_rfl) (by kernel_rfl) (fun _ _ _ h => h) (Or.inl ⟨by rfl, ?_⟩) (by assumption) ?_
  · intro wz hSw; go_simp
  try simp only [Act.put, List.setIfInBounds_toArray, List.set_cons_zero, List.set_cons_succ]
  refine takeC (i := 1) (v := .slice ia I.length ic) (some 9) rfl rfl (by kernel_rfl) (by kernel_rfl) (by kernel_rfl) (fun _ _ _ h => h) (Or.inl ⟨by rfl, ?_⟩) (by assumption) ?_
  · intro wz hSw; obtain ⟨t0, t1⟩ := HBX.out.below hSw (by rw [HSZ.out]; omega); go_simp
  try simp only [Act.put, List.setIfInBounds_toArray, List.set_cons_zero, List.set_cons_succ]
  refine takeC (i := 3) (v := .pointer (some ⟨w.heap.size, 1, none⟩)) (some 11) rfl rfl (by kernel_rfl) (by kernel_rfl) (by kernel_rfl) (fun _ _ _ h => h) (Or.inl ⟨by rfl, ?_⟩) (by assumption) ?_
  · intro wz hSw; go_simp
  try simp only [Act.put, List.setIfInBounds_toArray, List.set_cons_zero, List.set_cons_succ]
  refine takeC (i := 4) (v := .slice aa 0 ac) (some 12) rfl rfl (by kernel_rfl) (by kernel_rfl) (by kernel_rfl) (fun _ _ _ h => h) (Or.inl ⟨by rfl, ?_⟩) (by assumption) ?_
  · intro wz hSw; obtain ⟨t0, t1⟩ := HBX.out.below hSw (by rw [HSZ.out]; omega); go_simp
  try simp only [Act.put, List.setIfInBounds_toArray, List.set_cons_zero, List.set_cons_succ]
  have HBw : Hid (Below W.heap.size W W.drew) := hSd
  refine wpAnyH_ready (rs := [2, 6]) (by kernel_rfl) (by simp) ?_
  refine AllReadyH.cons rfl (fun K hK => ?_) (AllReadyH.cons rfl (fun K hK => ?_) AllReadyH.nil)
  · go_simp
    go_wp2_with (go_at_call 93; go_loud (refine (HC1.out _ HBw.out).mono ?_; rintro e w1 ⟨v1, rfl, ho, hb⟩; obtain ⟨a1, c1, rfl⟩ := own_shC ho; have HV1 := Lib.hid ho; have HBn := Lib.hid hb; clear ho hb))
    have HBw2 := Lib.hid (HBw.out.trans (HBn.out.mono HBw.out.size))
    have HV1 := Lib.hid (HV1.out.mono (B' := W.heap.size) HBw.out.size)
    refine hK.out _ _ HBw2.out (fun hHn => ?_)
    clear hK K hHn
    try simp only [Act.put, List.setIfInBounds_toArray, List.set_cons_zero, List.set_cons_succ]
    have HBw := HBw2
    have hSw := HBw.out
    refine wpAnyH_ready (rs := [5, 6]) (by kernel_rfl) (by simp) ?_
    refine AllReadyH.cons rfl (fun K hK => ?_) (AllReadyH.cons rfl (fun K hK => ?_) AllReadyH.nil)
    · go_simp
      go_wp2_with (go_at_call 119; go_loud (refine (HC2.out _ HBw.out).mono ?_; rintro e w2 ⟨v2, rfl, ho, hb⟩; obtain ⟨a2, c2, rfl⟩ := ho.shape; have HV2 := Lib.hid ho; have HBn := Lib.hid hb; clear ho hb))
      simp only [List.length_nil] at HV2
      have HBw2 := Lib.hid (HBw.out.trans (HBn.out.mono HBw.out.size))
      have HV1 := Lib.hid (HV1.out.below HBn.out (Nat.le_refl _))
      have HV2 := Lib.hid (HV2.out.mono (B' := W.heap.size) HBw.out.size)
      refine hK.out _ _ HBw2.out (fun hHn => ?_)
      clear hK K hHn
      try simp only [Act.put, List.setIfInBounds_toArray, List.set_cons_zero, List.set_cons_succ]
      have HBw := HBw2
      have hSw := HBw.out
      refine wpAnyH_ready (rs := [6]) (by kernel_rfl) (by simp) ?_
      refine AllReadyH.cons rfl (fun K hK => ?_) AllReadyH.nil
      go_simp
      have HMP := Lib.hid (MapP.made w2)
      have HBn := Lib.hid (below_alloc1 w2 (.map #[] 0))
      obtain ⟨bf, hbf⟩ : ∃ bf, w2.heap.size = bf := ⟨_, rfl⟩
      have HLB : Hid (W.heap.size ≤ bf) := by have := HBw.out.size; show _ ≤ _; omega
      have HBw2 := Lib.hid (HBw.out.trans (HBn.out.mono HBw.out.size))
      have HV1n := Lib.hid (HV1.out.below HBn.out (Nat.le_refl _))
      have HV2n := Lib.hid (HV2.out.below HBn.out (Nat.le_refl _))
      refine hK.out _ _ HBw2.out (fun hHn => ?_)
      clear hK K hHn
      try simp only [Act.put, List.setIfInBounds_toArray, List.set_cons_zero, List.set_cons_succ]
      rw [hbf] at HMP ⊢
      generalize w2.alloc (.map #[] 0) = w3 at *
      have HBw := HBw2
      have HV1 := HV1n
      have HV2 := HV2n
      have hSw := HBw.out
      refine takeC (i := 7) (v := .agg #[.pointer none, .slice a1 I.length c1, .slice a2 0 c2, .map (some bf), .bool false]) (some 15) rfl rfl (by kernel_rfl) (by kernel_rfl) (by kernel_rfl) (fun _ _ _ h => h) (Or.inl ⟨by rfl, ?_⟩) (by assumption) ?_
      · intro wz hSw; go_simp
      try simp only [Act.put, List.setIfInBounds_toArray, List.set_cons_zero, List.set_cons_succ]
      refine wpAnyH_ready (rs := [8]) (by kernel_rfl) (by simp) ?_
      refine AllReadyH.cons rfl (fun K hK => ?_) AllReadyH.nil
      go_simp
      have HBL := Lib.hid (below_alloc1 w3 (.cells #[.pointer none, .slice a1 I.length c1, .slice a2 0 c2, .map (some bf), .bool false] 111))
      have HBf := Lib.hid (HBw.out.trans (HBL.out.mono HBw.out.size))
      refine hK.out _ _ HBf.out (fun hHn => ?_)
      clear hK K hHn
      try simp only [Act.put, List.setIfInBounds_toArray, List.set_cons_zero, List.set_cons_succ]
      have hSw := HBf.out
      refine takeC (i := 9) (v := .pointer (some ⟨w3.heap.size, 0, none⟩)) (some 3) rfl rfl (by kernel_rfl) (by kernel_rfl) (by kernel_rfl) (fun _ _ _ h => h) (Or.inl ⟨by rfl, ?_⟩) (by assumption) ?_
      · intro wz hSw; go_simp
      try simp only [Act.put, List.setIfInBounds_toArray, List.set_cons_zero, List.set_cons_succ]
      refine wpAnyH_done (by kernel_rfl) ?_ _
      have hbx : (w3.alloc (.cells #[.pointer none, .slice a1 I.length c1, .slice a2 0 c2, .map (some bf), .bool false] 111)).heap[w3.heap.size]? = some (.cells #[.pointer none, .slice a1 I.length c1, .slice a2 0 c2, .map (some bf), .bool false] 111 (0, 0)) := World.alloc_heap_new _ _
      have q1 := HV1.out.below HBL.out (Nat.le_refl _)
      have q2 := HV2.out.below HBL.out (Nat.le_refl _)
      have q3 := HMP.out.below HBL.out (Nat.le_refl _)
      have HHH := Lib.hid (maker_set (pm := w3.heap.size) hbx (HBw.out.size) q1 HI64.out (by omega) q2 q3 HLB.out hl)
      clear q1 q2 q3
      have HHX := Lib.hid hbx
      have HW0 : Hid (w.heap.size ≤ W.heap.size) := HB0.out.size
      generalize w3.alloc _ = wz at *
      have HPM : Hid (W.heap.size ≤ w3.heap.size) := HBw.out.size
      generalize w3.heap.size = pm at *
      have d0 : wz.cell? ⟨pm, 0, none⟩ = some (.pointer none) := by simp [World.cell?, hbx]
      have f0 : wz.frozen? ⟨pm, 0, none⟩ = false := by simp [World.frozen?, hbx]
      have HB9 : Hid (Below w.heap.size w (wz.setCell ⟨pm, 0, none⟩ (.pointer (some ⟨pm, 0, none⟩)))) := (HB0.out.trans (HBf.out.mono HB0.out.size)).setCell (p := ⟨pm, 0, none⟩) (Nat.le_trans HW0.out HPM.out) _
      obtain ⟨e0, e1, e2, e3, e4⟩ := HHH.out.cell
      clear hbx
      go_upto_region 3 with fail
      generalize wz.setCell ⟨pm, 0, none⟩ (.pointer (some ⟨pm, 0, none⟩)) = wy at *
      clear hmm d0 f0 e0 e1 e3 e4
      go_wp2
      go_loopw [26] (fun i wr => i = .int .i64 0 ∧ wr = wy) (fun _ _ => 0)
      case atStart => exact ⟨rfl, rfl⟩
      case round =>
        obtain ⟨rfl, rfl⟩ := hrel
        go_wp2
        go_ret
        have hmk := HHH.out
        have hlb := Nat.le_trans HW0.out (Nat.le_refl W.heap.size)
        exact ⟨pm, _, _, rfl, ⟨_, _, hmk.lower hlb⟩, HB9.out⟩
    · go_simp
      have HMP := Lib.hid (MapP.made w1)
      have HBn := Lib.hid (below_alloc1 w1 (.map #[] 0))
      obtain ⟨bf, hbf⟩ : ∃ bf, w1.heap.size = bf := ⟨_, rfl⟩
      have HLB : Hid (W.heap.size ≤ bf) := by have := HBw.out.size; show _ ≤ _; omega
      have HBw2 := Lib.hid (HBw.out.trans (HBn.out.mono HBw.out.size))
      have HV1n := Lib.hid (HV1.out.below HBn.out (Nat.le_refl _))
      refine hK.out _ _ HBw2.out (fun hHn => ?_)
      clear hK K hHn
      try simp only [Act.put, List.setIfInBounds_toArray, List.set_cons_zero, List.set_cons_succ]
      rw [hbf] at HMP ⊢
      generalize w1.alloc (.map #[] 0) = w2 at *
      have HBw := HBw2
      have HV1 := HV1n
      have hSw := HBw.out
      refine wpAnyH_ready (rs := [5]) (by kernel_rfl) (by simp) ?_
      refine AllReadyH.cons rfl (fun K hK => ?_) AllReadyH.nil
      go_simp
      go_wp2_with (go_at_call 119; go_loud (refine (HC2.out _ HBw.out).mono ?_; rintro e w3 ⟨v2, rfl, ho, hb⟩; obtain ⟨a2, c2, rfl⟩ := ho.shape; have HV2 := Lib.hid ho; have HBn := Lib.hid hb; clear ho hb))
      simp only [List.length_nil] at HV2
      have HBw2 := Lib.hid (HBw.out.trans (HBn.out.mono HBw.out.size))
      have HV1 := Lib.hid (HV1.out.below HBn.out (Nat.le_refl _))
      have HMP := Lib.hid (HMP.out.below HBn.out (Nat.le_refl _))
      have HV2 := Lib.hid (HV2.out.mono (B' := W.heap.size) HBw.out.size)
      refine hK.out _ _ HBw2.out (fun hHn => ?_)
      clear hK K hHn
      try simp only [Act.put, List.setIfInBounds_toArray, List.set_cons_zero, List.set_cons_succ]
      have HBw := HBw2
      have hSw := HBw.out
      refine takeC (i := 7) (v := .agg #[.pointer none, .slice a1 I.length c1, .slice a2 0 c2, .map (some bf), .bool false]) (some 15) rfl rfl (by kernel_rfl) (by kernel_rfl) (by kernel_rfl) (fun _ _ _ h => h) (Or.inl ⟨by rfl, ?_⟩) (by assumption) ?_
      · intro wz hSw; go_simp
      try simp only [Act.put, List.setIfInBounds_toArray, List.set_cons_zero, List.set_cons_succ]
      refine wpAnyH_ready (rs := [8]) (by kernel_rfl) (by simp) ?_
      refine AllReadyH.cons rfl (fun K hK => ?_) AllReadyH.nil
      go_simp
      have HBL := Lib.hid (below_alloc1 w3 (.cells #[.pointer none, .slice a1 I.length c1, .slice a2 0 c2, .map (some bf), .bool false] 111))
      have HBf := Lib.hid (HBw.out.trans (HBL.out.mono HBw.out.size))
      refine hK.out _ _ HBf.out (fun hHn => ?_)
      clear hK K hHn
      try simp only [Act.put, List.setIfInBounds_toArray, List.set_cons_zero, List.set_cons_succ]
      have hSw := HBf.out
      refine takeC (i := 9) (v := .pointer (some ⟨w3.heap.size, 0, none⟩)) (some 3) rfl rfl (by kernel_rfl) (by kernel_rfl) (by kernel_rfl) (fun _ _ _ h => h) (Or.inl ⟨by rfl, ?_⟩) (by assumption) ?_
      · intro wz hSw; go_simp
      try simp only [Act.put, List.setIfInBounds_toArray, List.set_cons_zero, List.set_cons_succ]
      refine wpAnyH_done (by kernel_rfl) ?_ _
      have hbx : (w3.alloc (.cells #[.pointer none, .slice a1 I.length c1, .slice a2 0 c2, .map (some bf), .bool false] 111)).heap[w3.heap.size]? = some (.cells #[.pointer none, .slice a1 I.length c1, .slice a2 0 c2, .map (some bf), .bool false] 111 (0, 0)) := World.alloc_heap_new _ _
      have q1 := HV1.out.below HBL.out (Nat.le_refl _)
      have q2 := HV2.out.below HBL.out (Nat.le_refl _)
      have q3 := HMP.out.below HBL.out (Nat.le_refl _)
      have HHH := Lib.hid (maker_set (pm := w3.heap.size) hbx (HBw.out.size) q1 HI64.out (by omega) q2 q3 HLB.out hl)
      clear q1 q2 q3
      have HHX := Lib.hid hbx
      have HW0 : Hid (w.heap.size ≤ W.heap.size) := HB0.out.size
      generalize w3.alloc _ = wz at *
      have HPM : Hid (W.heap.size ≤ w3.heap.size) := HBw.out.size
      generalize w3.heap.size = pm at *
      have d0 : wz.cell? ⟨pm, 0, none⟩ = some (.pointer none) := by simp [World.cell?, hbx]
      have f0 : wz.frozen? ⟨pm, 0, none⟩ = false := by simp [World.frozen?, hbx]
      have HB9 : Hid (Below w.heap.size w (wz.setCell ⟨pm, 0, none⟩ (.pointer (some ⟨pm, 0, none⟩)))) := (HB0.out.trans (HBf.out.mono HB0.out.size)).setCell (p := ⟨pm, 0, none⟩) (Nat.le_trans HW0.out HPM.out) _
      obtain ⟨e0, e1, e2, e3, e4⟩ := HHH.out.cell
      clear hbx
      go_upto_region 3 with fail
      generalize wz.setCell ⟨pm, 0, none⟩ (.pointer (some ⟨pm, 0, none⟩)) = wy at *
      clear hmm d0 f0 e0 e1 e3 e4
      go_wp2
      go_loopw [26] (fun i wr => i = .int .i64 0 ∧ wr = wy) (fun _ _ => 0)
      case atStart => exact ⟨rfl, rfl⟩
      case round =>
        obtain ⟨rfl, rfl⟩ := hrel
        go_wp2
        go_ret
        have hmk := HHH.out
        have hlb := Nat.le_trans HW0.out (Nat.le_refl W.heap.size)
        exact ⟨pm, _, _, rfl, ⟨_, _, hmk.lower hlb⟩, HB9.out⟩
  · go_simp
    have HMP : Hid (MapP ((W.alloc (.map #[] 0)).drew) W.heap.size 0 (fun _ => none)) := (MapP.made W).below ((Below.refl _ _).drew) (Nat.le_refl _)
    have HBn : Hid (Below W.heap.size W ((W.alloc (.map #[] 0)).drew)) := (below_alloc1 W _).drew
    have HLB : Hid (W.heap.size ≤ W.heap.size) := Nat.le_refl _
    have HBw2 := HBn
    refine hK.out _ _ HBw2.out (fun hHn => ?_)
    clear hK K hHn
    try simp only [Act.put, List.setIfInBounds_toArray, List.set_cons_zero, List.set_cons_succ]
    generalize (W.alloc (.map #[] 0)).drew = w1 at *
    have HBw := HBw2
    have hSw := HBw.out
    refine wpAnyH_ready (rs := [2]) (by kernel_rfl) (by simp) ?_
    refine AllReadyH.cons rfl (fun K hK => ?_) AllReadyH.nil
    go_simp
    go_wp2_with (go_at_call 93; go_loud (refine (HC1.out _ HBw.out).mono ?_; rintro e w2 ⟨v1, rfl, ho, hb⟩; obtain ⟨a1, c1, rfl⟩ := own_shC ho; have HV1 := Lib.hid ho; have HBn := Lib.hid hb; clear ho hb))
    have HBw2 := Lib.hid (HBw.out.trans (HBn.out.mono HBw.out.size))
    have HMP := Lib.hid (HMP.out.below HBn.out (Nat.le_refl _))
    have HV1 := Lib.hid (HV1.out.mono (B' := W.heap.size) HBw.out.size)
    refine hK.out _ _ HBw2.out (fun hHn => ?_)
    clear hK K hHn
    try simp only [Act.put, List.setIfInBounds_toArray, List.set_cons_zero, List.set_cons_succ]
    have HBw := HBw2
    have hSw := HBw.out
    refine wpAnyH_ready (rs := [5]) (by kernel_rfl) (by simp) ?_
    refine AllReadyH.cons rfl (fun K hK => ?_) AllReadyH.nil
    go_simp
    go_wp2_with (go_at_call 119; go_loud (refine (HC2.out _ HBw.out).mono ?_; rintro e w3 ⟨v2, rfl, ho, hb⟩; obtain ⟨a2, c2, rfl⟩ := ho.shape; have HV2 := Lib.hid ho; have HBn := Lib.hid hb; clear ho hb))
    simp only [List.length_nil] at HV2
    have HBw2 := Lib.hid (HBw.out.trans (HBn.out.mono HBw.out.size))
    have HV1 := Lib.hid (HV1.out.below HBn.out (Nat.le_refl _))
    have HMP := Lib.hid (HMP.out.below HBn.out (Nat.le_refl _))
    have HV2 := Lib.hid (HV2.out.mono (B' := W.heap.size) HBw.out.size)
    refine hK.out _ _ HBw2.out (fun hHn => ?_)
    clear hK K hHn
    try simp only [Act.put, List.setIfInBounds_toArray, List.set_cons_zero, List.set_cons_succ]
    have HBw := HBw2
    have hSw := HBw.out
    refine takeC (i := 7) (v := .agg #[.pointer none, .slice a1 I.length c1, .slice a2 0 c2, .map (some W.heap.size), .bool false]) (some 15) rfl rfl (by kernel_rfl) (by kernel_rfl) (by kernel_rfl) (fun _ _ _ h => h) (Or.inl ⟨by rfl, ?_⟩) (by assumption) ?_
    · intro wz hSw; go_simp
    try simp only [Act.put, List.setIfInBounds_toArray, List.set_cons_zero, List.set_cons_succ]
    refine wpAnyH_ready (rs := [8]) (by kernel_rfl) (by simp) ?_
    refine AllReadyH.cons rfl (fun K hK => ?_) AllReadyH.nil
    go_simp
    have HBL := Lib.hid (below_alloc1 w3 (.cells #[.pointer none, .slice a1 I.length c1, .slice a2 0 c2, .map (some W.heap.size), .bool false] 111))
    have HBf := Lib.hid (HBw.out.trans (HBL.out.mono HBw.out.size))
    refine hK.out _ _ HBf.out (fun hHn => ?_)
    clear hK K hHn
    try simp only [Act.put, List.setIfInBounds_toArray, List.set_cons_zero, List.set_cons_succ]
    have hSw := HBf.out
    refine takeC (i := 9) (v := .pointer (some ⟨w3.heap.size, 0, none⟩)) (some 3) rfl rfl (by kernel_rfl) (by kernel_rfl) (by kernel_rfl) (fun _ _ _ h => h) (Or.inl ⟨by rfl, ?_⟩) (by assumption) ?_
    · intro wz hSw; go_simp
    try simp only [Act.put, List.setIfInBounds_toArray, List.set_cons_zero, List.set_cons_succ]
    refine wpAnyH_done (by kernel_rfl) ?_ _
    have hbx : (w3.alloc (.cells #[.pointer none, .slice a1 I.length c1, .slice a2 0 c2, .map (some W.heap.size), .bool false] 111)).heap[w3.heap.size]? = some (.cells #[.pointer none, .slice a1 I.length c1, .slice a2 0 c2, .map (some W.heap.size), .bool false] 111 (0, 0)) := World.alloc_heap_new _ _
    have q1 := HV1.out.below HBL.out (Nat.le_refl _)
    have q2 := HV2.out.below HBL.out (Nat.le_refl _)
    have q3 := HMP.out.below HBL.out (Nat.le_refl _)
    have HHH := Lib.hid (maker_set (pm := w3.heap.size) hbx (HBw.out.size) q1 HI64.out (by omega) q2 q3 HLB.out hl)
    clear q1 q2 q3
    have HHX := Lib.hid hbx
    have HW0 : Hid (w.heap.size ≤ W.heap.size) := HB0.out.size
    generalize w3.alloc _ = wz at *
    have HPM : Hid (W.heap.size ≤ w3.heap.size) := HBw.out.size
    generalize w3.heap.size = pm at *
    have d0 : wz.cell? ⟨pm, 0, none⟩ = some (.pointer none) := by simp [World.cell?, hbx]
    have f0 : wz.frozen? ⟨pm, 0, none⟩ = false := by simp [World.frozen?, hbx]
    have HB9 : Hid (Below w.heap.size w (wz.setCell ⟨pm, 0, none⟩ (.pointer (some ⟨pm, 0, none⟩)))) := (HB0.out.trans (HBf.out.mono HB0.out.size)).setCell (p := ⟨pm, 0, none⟩) (Nat.le_trans HW0.out HPM.out) _
    obtain ⟨e0, e1, e2, e3, e4⟩ := HHH.out.cell
    clear hbx
    go_upto_region 3 with fail
    generalize wz.setCell ⟨pm, 0, none⟩ (.pointer (some ⟨pm, 0, none⟩)) = wy at *
    clear hmm d0 f0 e0 e1 e3 e4
    go_wp2
    go_loopw [26] (fun i wr => i = .int .i64 0 ∧ wr = wy) (fun _ _ => 0)
    case atStart => exact ⟨rfl, rfl⟩
    case round =>
      obtain ⟨rfl, rfl⟩ := hrel
      go_wp2
      go_ret
      have hmk := HHH.out
      have hlb := Nat.le_trans HW0.out (Nat.le_refl W.heap.size)
      exact ⟨pm, _, _, rfl, ⟨_, _, hmk.lower hlb⟩, HB9.out⟩
end Go.Proofs.YtppglbffmgnooaaGreat

/- aig.place, input, moved. -/
namespace Go.Proofs.YtppglbffmgnooaaGreat
open Go.RowKit Go.Maps
set_option linter.unusedVariables false
set_option linter.unusedSimpArgs false

theorem mayFrom_lt : ∀ (l : List Int) (p : Int), 0 ≤ p → mayFrom p l = true → (∀ x ∈ l, 0 ≤ x) → (∀ x ∈ l, p < x ∧ x ≤ 65536) ∧ l.Pairwise (· < ·)
  | [], p, _, _, _ => ⟨fun x hx => (by cases hx), List.Pairwise.nil⟩
  | x :: r, p, hp, h, hx => by
    unfold mayFrom at h
    rw [Bool.and_eq_true, decide_eq_true_eq] at h
    have h0 := hx x List.mem_cons_self
    have hv : varOf x = x ∧ x ≤ 65536 := by
      have h1 := h.1
      unfold varOf at h1 ⊢
      split at h1
      · omega
      · rename_i hc
        rw [if_neg hc, if_neg (by omega)]
        omega
    rw [hv.1] at h
    obtain ⟨h2, h3⟩ := mayFrom_lt r x h0 h.2 (fun y hy => hx y (List.mem_cons_of_mem _ hy))
    refine ⟨fun y hy => ?_, List.pairwise_cons.2 ⟨fun y hy => (h2 y hy).1, h3⟩⟩
    rcases List.mem_cons.1 hy with rfl | hy
    · exact ⟨h.1, hv.2⟩
    · have := h2 y hy
      have := h.1
      omega
theorem insB_lt {I : List Int} (h : insB I = true) : (∀ x ∈ I, 0 < x ∧ x ≤ 65536) ∧ I.Pairwise (· < ·) := by
  unfold insB at h
  rw [Bool.and_eq_true] at h
  refine mayFrom_lt I 0 (Int.le_refl _) h.1 (fun x hx => ?_)
  have h2 := h.2
  simp only [Bool.not_eq_true', List.any_eq_false, decide_eq_true_eq] at h2
  have := h2 x hx
  omega
/-- The node of an input; 0: there is none. -/
def placeA (I : List Int) (v : Int) : Int := if v ∈ I then ((I.countP (fun y => decide (y < v)) : Nat) : Int) + 1 else 0
theorem placeA_bd (I : List Int) (v : Int) : 0 ≤ placeA I v ∧ placeA I v ≤ I.length := by
  unfold placeA
  split
  · rename_i h
    have hc : I.countP (fun y => decide (y < v)) < I.length := by
      rcases Nat.lt_or_eq_of_le (List.countP_le_length (p := fun y => decide (y < v)) (l := I)) with h1 | h1
      · exact h1
      · rw [List.countP_eq_length] at h1
        have := h1 v h
        simp at this
    omega
  · omega
theorem placeA_at {I : List Int} (h : I.Pairwise (· < ·)) {k : Nat} (hk : k < I.length) : placeA I (I.getD k 0) = (k : Int) + 1 := by
  have he : I.getD k 0 = I[k] := by simp [List.getD, hk]
  have hm : I[k] ∈ I := List.getElem_mem hk
  have h1 : (I.take k).countP (fun y => decide (y < I[k])) = k := by
    have : (I.take k).countP (fun y => decide (y < I[k])) = (I.take k).length := by
      rw [List.countP_eq_length]
      intro y hy
      obtain ⟨j, hj, rfl⟩ := List.mem_take_iff_getElem.1 hy
      simpa using List.pairwise_iff_getElem.1 h j k (by omega) hk (by omega)
    rw [this, List.length_take]
    omega
  have h2 : (I.drop k).countP (fun y => decide (y < I[k])) = 0 := by
    rw [List.countP_eq_zero]
    intro y hy
    obtain ⟨j, hj, rfl⟩ := List.mem_drop_iff_getElem.1 hy
    cases j with
    | zero => simp
    | succ j =>
      have := List.pairwise_iff_getElem.1 h k (k + (j + 1)) hk (by omega) (by omega)
      simp
      omega
  rw [he]
  unfold placeA
  rw [if_pos hm]
  generalize I[k] = x at *
  rw [show I.countP (fun y => decide (y < x)) = (I.take k ++ I.drop k).countP (fun y => decide (y < x)) from by rw [List.take_append_drop], List.countP_append, h1, h2]
  rfl
theorem gbs_any (v : Value) (l : List Int) (x : Int) (w : World) (H : IsInts w v l) (hs : l.Pairwise (· ≤ ·)) :
    Calls Tryz.prog 148 #[v, .int .i64 x] w fun e w' => e = .returned (.tuple #[.int .i64 ((l.countP (fun y => decide (y < x)) : Nat) : Int), .bool (decide (x ∈ l))]) ∧ Quiet w w' := by
  obtain ⟨a, cap, rfl, _, _, hl, h64, b, off, ha, hc⟩ := H
  by_cases hn : l = []
  · subst hn
    refine (Tryz.slices_BinarySearch_int_empty a cap x w).mono ?_
    rintro e w' ⟨rfl, rfl⟩
    exact ⟨by simp, Quiet.refl _⟩
  · obtain ⟨rfl, hb⟩ := ha hn
    refine (Tryz.slices_BinarySearch_int b off l.length cap l x w (Nat.le_refl _) (by omega) hc (by rw [List.take_length]; exact hs)).mono ?_
    rintro e w' ⟨rfl, q, rfl⟩
    rw [List.take_length]
    exact ⟨by simp, ⟨q, rfl⟩⟩
set_option maxRecDepth 100000 in
theorem place_any (vi : Value) (I : List Int) (v : Int) (w : World) (H : IsInts w vi I) (hs : I.Pairwise (· < ·)) (hl : I.length ≤ 4000000) :
    Calls Tryz.prog 77 #[vi, .int .i64 v] w fun e w' => e = .returned (.int .i64 (placeA I v)) ∧ Quiet w w' := by
  have HB := Lib.hid (gbs_any vi I v w H (hs.imp (fun h => Int.le_of_lt h)))
  have hcb : I.countP (fun y => decide (y < v)) ≤ 4000000 := Nat.le_trans List.countP_le_length hl
  obtain ⟨a, cap, rfl⟩ := H.shape
  clear H hs
  by_cases hm : v ∈ I
  · have HE : Hid (placeA I v = ((I.countP (fun y => decide (y < v)) : Nat) : Int) + 1) := by show _ = _; unfold placeA; rw [if_pos hm]
    rw [decide_eq_true hm] at HB
    clear hm
    generalize I.countP (fun y => decide (y < v)) = c at *
    go_enter Tryz.func77, Tryz.ntmps77
    go_wp2_with (go_at_call 148; refine HB.out.mono ?_; rintro e w1 ⟨rfl, hq⟩)
    go_ret
    exact ⟨ret_int HE.out.symm, hq⟩
  · have HE : Hid (placeA I v = 0) := by show _ = _; unfold placeA; rw [if_neg hm]
    rw [decide_eq_false hm] at HB
    clear hm
    generalize I.countP (fun y => decide (y < v)) = c at *
    go_enter Tryz.func77, Tryz.ntmps77
    go_wp2_with (go_at_call 148; refine HB.out.mono ?_; rintro e w1 ⟨rfl, hq⟩)
    go_ret
    exact ⟨ret_int HE.out.symm, hq⟩
theorem MkE.ins {w : World} {B pm : Nat} {I : List Int} {s : Mq} {vi : Value} {bf sl : Nat} (h : MkE w B pm I s vi bf sl) : IsInts w vi I ∧ I.length ≤ 4000000 := by
  obtain ⟨_, _, h⟩ := h
  exact ⟨h.ins.ints h.il h.i64, h.il⟩
theorem MkE.cell {w : World} {B pm : Nat} {I : List Int} {s : Mq} {vi : Value} {bf sl : Nat} (h : MkE w B pm I s vi bf sl) :
    w.cell? ⟨pm, 0, none⟩ = some (.pointer (some ⟨pm, 0, none⟩)) ∧ w.cell? ⟨pm, 1, none⟩ = some vi ∧ w.cell? ⟨pm, 4, none⟩ = some (.bool s.2) := by
  obtain ⟨_, _, h⟩ := h
  obtain ⟨h0, h1, _, _, h4⟩ := h.cell
  exact ⟨h0, h1, h4⟩
set_option maxRecDepth 100000 in
theorem input_any {w : World} {B pm : Nat} {I : List Int} {s : Mq} {vi : Value} {bf sl : Nat} (v : Int) (H : MkE w B pm I s vi bf sl) (hs : I.Pairwise (· < ·)) :
    Calls Tryz.prog 96 #[.pointer (some ⟨pm, 0, none⟩), .int .i64 v] w fun e w' => e = .returned (.int .i64 (2 * placeA I v)) ∧ Quiet w w' := by
  obtain ⟨HI, hl⟩ := H.ins
  obtain ⟨_, c1, _⟩ := H.cell
  have HP := Lib.hid (place_any vi I v w HI hs hl)
  have hbd := placeA_bd I v
  obtain ⟨h0, h1⟩ := hbd
  obtain ⟨a, cap, rfl⟩ := HI.shape
  have h2 : placeA I v ≤ 4000000 := by omega
  clear HI H hs h1
  generalize placeA I v = x at *
  go_enter Tryz.func96, Tryz.ntmps96
  go_wp2_with (go_at_call 77; refine HP.out.mono ?_; rintro e w1 ⟨rfl, hq⟩)
  go_ret
  exact ⟨rfl, hq⟩
theorem movE_bits {tl : List Int} {e x : Int} (he : tl.getD (e / 2).toNat 0 = x) (h0 : 0 ≤ e) (hx : 0 ≤ x ∧ x ≤ 4000000) : bits .xor .i64 x (e % 2) = movE tl e := by
  unfold movE
  rw [he]
  by_cases h : e % 2 = 0
  · rw [if_pos h, h]; exact xor_zero hx.1 hx.2
  · rw [if_neg h, show e % 2 = 1 from by omega]; exact xor_one hx.1 hx.2
set_option maxRecDepth 100000 in
theorem moved_any (e : Int) (vt : Value) (tl : List Int) (w : World) (H : IsInts w vt tl) (h0 : 0 ≤ e) (h1 : e / 2 < tl.length) (hb : ∀ x ∈ tl, 0 ≤ x ∧ x ≤ 4000000) (hl : tl.length ≤ 4000000) :
    Calls Tryz.prog 152 #[.int .i64 e, vt] w fun r w' => r = .returned (.int .i64 (movE tl e)) ∧ w = w' := by
  obtain ⟨q, hq⟩ : ∃ q : Nat, e / 2 = (q : Int) := ⟨(e / 2).toNat, by omega⟩
  have hql : q < tl.length := by omega
  obtain ⟨a, cap, rfl⟩ := H.shape
  obtain ⟨b, off, rfl, hbl, hc⟩ := H.cellY hql
  have hxb := hb _ (getD_mem hql)
  have HM := Lib.hid (movE_bits (x := tl.getD q 0) (by rw [hq]; rfl) h0 hxb)
  obtain ⟨x0, x1⟩ := hxb
  have he2 : e ≤ 8000000 := by omega
  have hq0 : (0 : Int) ≤ (q : Int) := by omega
  have hq1 : (q : Int) < (tl.length : Int) := by omega
  clear H hb h1
  generalize tl.getD q 0 = x at *
  go_enter Tryz.func152, Tryz.ntmps152
  go_wp2
  go_ret
  exact ⟨ret_int HM.out, rfl⟩
end Go.Proofs.YtppglbffmgnooaaGreat

/- aig.orElse, copier, Restrict's isFixed: functions that are values. -/
namespace Go.Proofs.YtppglbffmgnooaaGreat
open Go.RowKit Go.Maps
set_option linter.unusedVariables false
set_option linter.unusedSimpArgs false

/-- A function's value that tells the images of the inputs, wherever old blocks are as they were. -/
def ImgAt (w : World) (vf : Value) (I : List Int) (img : Int → Int) : Prop :=
  ∃ g f0 cb, vf = .func (.func g) f0 cb ∧ (∀ args X, (callFunc g args).run Tryz.prog X = .ok (.enter g args) X) ∧ ∀ X, Below w.heap.size w X → ∀ v ∈ I, Calls Tryz.prog g (f0 ++ #[.int .i64 v] ++ cb) X fun e X' => e = .returned (.int .i64 (img v)) ∧ Quiet X X'
theorem ImgAt.below {w w' : World} {vf : Value} {I : List Int} {img : Int → Int} (h : ImgAt w vf I img) (hb : Below w.heap.size w w') : ImgAt w' vf I img := by
  obtain ⟨g, f0, cb, e, eg, ht⟩ := h
  exact ⟨g, f0, cb, e, eg, fun X hX => ht X (hb.trans (hX.mono hb.size))⟩
def orA (f : Int → Option Int) (img : Int → Int) (v : Int) : Int := (f v).getD (img v)
theorem orElse_enters (args : Array Value) (w : World) : (callFunc 153 args).run Tryz.prog w = .ok (.enter 153 args) w := enters_of Tryz.func153 (by kernel_rfl) rfl args w
theorem input_enters (args : Array Value) (w : World) : (callFunc 96 args).run Tryz.prog w = .ok (.enter 96 args) w := enters_of Tryz.func96 (by kernel_rfl) rfl args w
set_option maxRecDepth 100000 in
theorem orElse1_any (b1 b2 bm n g : Nat) (f0 cb : Array Value) (f : Int → Option Int) (img : Int → Int) (v : Int) (w : World) (c1 : w.cell? ⟨b1, 0, none⟩ = some (.map (some bm))) (c2 : w.cell? ⟨b2, 0, none⟩ = some (.func (.func g) f0 cb))
    (HM : MapM w bm n f) (eg : ∀ args X, (callFunc g args).run Tryz.prog X = .ok (.enter g args) X) (ht : Calls Tryz.prog g (f0 ++ #[.int .i64 v] ++ cb) w fun e X' => e = .returned (.int .i64 (img v)) ∧ Quiet w X') (h1 : -9223372036854775808 ≤ v) (h2 : v ≤ 9223372036854775807) :
    Calls Tryz.prog 153 #[.int .i64 v, .pointer (some ⟨b1, 0, none⟩), .pointer (some ⟨b2, 0, none⟩)] w fun e w' => e = .returned (.int .i64 (orA f img v)) ∧ Quiet w w' := by
  have hlk := HM.look_ok v (i64w h1 h2)
  have HI : Hid (∀ y, f v = some y → orA f img v = y) := fun y hy => by unfold orA; rw [hy]; rfl
  have HN : Hid (f v = none → orA f img v = img v) := fun hy => by unfold orA; rw [hy]; rfl
  have HT := Lib.hid ht
  clear HM ht
  generalize img v = z at *
  cases hk : f v with
  | none =>
    rw [hk] at hlk
    have HE := Lib.hid (HN.out hk)
    clear hk HI HN
    go_enter Tryz.func153, Tryz.ntmps153
    go_wp2_with fail
    refine HT.out.mono ?_
    rintro e w1 ⟨rfl, hq⟩
    go_wp2
    go_ret
    exact ⟨ret_int HE.out.symm, hq⟩
  | some y =>
    rw [hk] at hlk
    have HE := Lib.hid (HI.out y hk)
    clear hk HI HN HT
    go_enter Tryz.func153, Tryz.ntmps153
    go_wp2
    go_ret
    exact ⟨ret_int HE.out.symm, Quiet.refl _⟩
set_option maxRecDepth 100000 in
theorem fixed_any (b1 bm n : Nat) (f : Int → Option Int) (v : Int) (w : World) (c1 : w.cell? ⟨b1, 0, none⟩ = some (.map (some bm))) (HM : MapM w bm n f) (h1 : -9223372036854775808 ≤ v) (h2 : v ≤ 9223372036854775807) :
    Calls Tryz.prog 90 #[.int .i64 v, .pointer (some ⟨b1, 0, none⟩)] w fun e w' => e = .returned (.bool (f v).isSome) ∧ w = w' := by
  have hlk := HM.look_ok v (i64w h1 h2)
  clear HM
  generalize (f v).isSome = t at *
  generalize (f v).getD 0 = y at *
  go_enter Tryz.func90, Tryz.ntmps90
  go_wp2
  go_ret
  exact ⟨rfl, rfl⟩
set_option maxRecDepth 100000 in
theorem orElse_any (bm g : Nat) (f0 cb : Array Value) (w : World) :
    Calls Tryz.prog 95 #[.map (some bm), .func (.func g) f0 cb] w fun e w' => e = .returned (.func (.func 153) #[] #[.pointer (some ⟨w.heap.size, 0, none⟩), .pointer (some ⟨w.heap.size + 1, 0, none⟩)]) ∧ Below w.heap.size w w' ∧ w.heap.size + 2 ≤ w'.heap.size ∧
      w'.cell? ⟨w.heap.size, 0, none⟩ = some (.map (some bm)) ∧ w'.cell? ⟨w.heap.size + 1, 0, none⟩ = some (.func (.func g) f0 cb) := by
  have hb1 := below_alloc1 w (.cells #[.map (some bm)] 140)
  have hb2 := below_alloc1 (w.alloc (.cells #[.map (some bm)] 140)) (.cells #[.func (.func g) f0 cb] 125)
  have HB := Lib.hid (hb1.trans (hb2.mono hb1.size))
  have HC1 : Hid (((w.alloc (.cells #[.map (some bm)] 140)).alloc (.cells #[.func (.func g) f0 cb] 125)).cell? ⟨w.heap.size, 0, none⟩ = some (.map (some bm))) := cell_old (cell_fresh rfl)
  have HC2 : Hid (((w.alloc (.cells #[.map (some bm)] 140)).alloc (.cells #[.func (.func g) f0 cb] 125)).cell? ⟨w.heap.size + 1, 0, none⟩ = some (.func (.func g) f0 cb)) := cell_fresh2 rfl
  clear hb1 hb2
  go_enter Tryz.func95, Tryz.ntmps95
  go_wp2
  go_ret
  exact ⟨by simp, HB.out, by simp, HC1.out, HC2.out⟩
set_option maxRecDepth 100000 in
theorem gcopier_any (pm : Nat) (vi va : Value) (I : List Int) (A : List Pr) (w : World) (HI : IsInts w vi I) (HA : IsPairs w va A) (h1 : I.length ≤ 4000000) :
    Calls Tryz.prog 94 #[.pointer (some ⟨pm, 0, none⟩), .agg #[vi, va]] w fun e w' => ∃ bm bg bk, e = .returned (.func (.func 151) #[] #[.pointer (some ⟨bg, 0, none⟩), .pointer (some ⟨bk, 0, none⟩), .pointer (some ⟨bm, 0, none⟩)]) ∧ Below w.heap.size w w' ∧
      (w'.heap[bm]? = some (.cells #[.pointer (some ⟨pm, 0, none⟩)] 69 (0, 0)) ∧ w'.heap[bg]? = some (.cells #[vi, va] 25 (0, 0)) ∧ w'.heap[bk]? = some (.cells #[.int .i64 ((1 + I.length : Nat) : Int)] 3 (0, 0))) ∧ w.heap.size ≤ bm ∧ w.heap.size ≤ bg ∧ w.heap.size ≤ bk := by
  obtain ⟨ia, ic, rfl⟩ := HI.shape
  obtain ⟨aa, ac, rfl, _⟩ := HA.shape
  have hb1 := below_alloc1 w (.cells #[.pointer (some ⟨pm, 0, none⟩)] 69)
  have hb2 := below_alloc1 (w.alloc (.cells #[.pointer (some ⟨pm, 0, none⟩)] 69)) (.cells #[.slice ia I.length ic, .slice aa A.length ac] 25)
  have hb : Below w.heap.size w ((w.alloc (.cells #[.pointer (some ⟨pm, 0, none⟩)] 69)).alloc (.cells #[.slice ia I.length ic, .slice aa A.length ac] 25)) := hb1.trans (hb2.mono hb1.size)
  have hsz : ((w.alloc (.cells #[.pointer (some ⟨pm, 0, none⟩)] 69)).alloc (.cells #[.slice ia I.length ic, .slice aa A.length ac] 25)).heap.size = w.heap.size + 2 := by simp
  have c0 : ((w.alloc (.cells #[.pointer (some ⟨pm, 0, none⟩)] 69)).alloc (.cells #[.slice ia I.length ic, .slice aa A.length ac] 25)).cell? ⟨w.heap.size, 0, none⟩ = some (.pointer (some ⟨pm, 0, none⟩)) := cell_old (cell_fresh rfl)
  have c1 : ((w.alloc (.cells #[.pointer (some ⟨pm, 0, none⟩)] 69)).alloc (.cells #[.slice ia I.length ic, .slice aa A.length ac] 25)).cell? ⟨w.heap.size + 1, 0, none⟩ = some (.slice ia I.length ic) := cell_fresh2 rfl
  have c2 : ((w.alloc (.cells #[.pointer (some ⟨pm, 0, none⟩)] 69)).alloc (.cells #[.slice ia I.length ic, .slice aa A.length ac] 25)).cell? ⟨w.heap.size + 1, 1, none⟩ = some (.slice aa A.length ac) := cell_fresh2 rfl
  have hc0 : ((w.alloc (.cells #[.pointer (some ⟨pm, 0, none⟩)] 69)).alloc (.cells #[.slice ia I.length ic, .slice aa A.length ac] 25)).heap[w.heap.size]? = some (.cells #[.pointer (some ⟨pm, 0, none⟩)] 69 (0, 0)) := (hb2.block _ (by simp)).trans (World.alloc_heap_new _ _)
  have hc1 : ((w.alloc (.cells #[.pointer (some ⟨pm, 0, none⟩)] 69)).alloc (.cells #[.slice ia I.length ic, .slice aa A.length ac] 25)).heap[w.heap.size + 1]? = some (.cells #[.slice ia I.length ic, .slice aa A.length ac] 25 (0, 0)) := by
    have h := World.alloc_heap_new (w.alloc (.cells #[.pointer (some ⟨pm, 0, none⟩)] 69)) (.cells #[.slice ia I.length ic, .slice aa A.length ac] 25)
    simpa using h
  clear HI HA hb1 hb2
  go_enter Tryz.func94, Tryz.ntmps94
  go_upto_region 1 with fail
  generalize World.alloc (World.alloc w _) _ = W at *
  have HB : Hid (Below w.heap.size w (W.alloc (.cells #[.int .i64 (1 + (I.length : Int))] 3))) := hb.trans ((below_alloc1 W _).mono hb.size)
  have HK : Hid ((W.alloc (.cells #[.int .i64 (1 + (I.length : Int))] 3)).heap[W.heap.size]? = some (.cells #[.int .i64 (1 + (I.length : Int))] 3 (0, 0))) := World.alloc_heap_new _ _
  have C0 : Hid ((W.alloc (.cells #[.int .i64 (1 + (I.length : Int))] 3)).heap[w.heap.size]? = some (.cells #[.pointer (some ⟨pm, 0, none⟩)] 69 (0, 0))) := ((below_alloc1 W _).block _ (by omega)).trans hc0
  have C1 : Hid ((W.alloc (.cells #[.int .i64 (1 + (I.length : Int))] 3)).heap[w.heap.size + 1]? = some (.cells #[.slice ia I.length ic, .slice aa A.length ac] 25 (0, 0))) := ((below_alloc1 W _).block _ (by omega)).trans hc1
  have HS := Lib.hid hsz
  clear hb c0 c2 hsz hc0 hc1
  go_wp2
  go_ret
  refine ⟨w.heap.size, w.heap.size + 1, W.heap.size, rfl, HB.out, ⟨C0.out, C1.out, ?_⟩, by omega, by omega, by rw [HS.out]; omega⟩
  rw [show ((1 + I.length : Nat) : Int) = 1 + (I.length : Int) from by omega]
  exact HK.out
end Go.Proofs.YtppglbffmgnooaaGreat
