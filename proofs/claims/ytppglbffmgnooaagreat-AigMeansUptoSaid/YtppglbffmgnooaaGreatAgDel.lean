/- slices.IndexFunc (the place of the first hit), slices.DeleteFunc over a row of the call's own. -/
import Derived.Test.YtppglbffmgnooaaGreatA07
import Derived.Lib.SliceRun
namespace Go.Proofs.YtppglbffmgnooaaGreat
open Go.RowKit Go.Maps
set_option linter.unusedVariables false
set_option linter.unusedSimpArgs false

set_option maxHeartbeats 800000 in
set_option maxRecDepth 100000 in
theorem idxe_any (p : Int → Bool) (g : Nat) (cb : Array Value) (v : Value) (l : List Int) (w : World)
    (eg : ∀ args w, (callFunc g args).run Tryz.prog w = .ok (.enter g args) w) (ht : TellsB Tryz.prog g cb p l w) (H : IsInts w v l) :
    Calls Tryz.prog 150 #[v, .func (.func g) #[] cb] w fun e w' => Quiet w w' ∧ ((e = .returned (.int .i64 (-1)) ∧ ∀ x ∈ l, p x = false) ∨ ∃ k : Nat, k < l.length ∧ e = .returned (.int .i64 k) ∧ (∀ x ∈ l.take k, p x = false) ∧ p (l.getD k 0) = true) := by
  have HH := Lib.hid H
  have hll : l.length ≤ 17592186044416 := by obtain ⟨_, _, _, _, _, h, _⟩ := H; exact h
  obtain ⟨a, cap, rfl⟩ := H.shape
  have HTE := Lib.hid ht
  clear ht H
  go_enter Tryz.func150, Tryz.ntmps150
  go_wp2
  go_loopw [8] (fun i wr => ∃ k : Nat, k ≤ l.length ∧ i = .int .i64 k ∧ Quiet w wr ∧ Hid (∀ x ∈ l.take k, p x = false)) (fun i _ => l.length - (intOf i).toNat)
  case atStart => exact ⟨0, Nat.zero_le _, rfl, Quiet.refl _, by intro x hx; simp at hx⟩
  case round =>
    obtain ⟨k, hk, rfl, hq, hn⟩ := hrel
    by_cases hlt : k < l.length
    · obtain ⟨b, off, rfl, hb, hc⟩ := HH.out.cellY hlt
      have hu := (hq.cell _).trans hc
      have HMEM := Lib.hid (ints_getD_mem hlt)
      have HTS := Lib.hid (ints_take_succ hlt)
      have HKL := Lib.hid hlt
      have hc := HTE.out wr _ hq HMEM.out
      have HGD : Hid (∀ y, l.getD k 0 = y → p y = true → p (l.getD k 0) = true) := fun y e h => by rw [e]; exact h
      generalize hxe : l.getD k 0 = x at hc hu HMEM HTS
      have HXE := Lib.hid hxe
      clear hxe
      cases hp : p x
      · have HP : Hid (∀ y ∈ l.take (k + 1), p y = false) := by
          intro y hy
          rw [HTS.out] at hy
          rcases List.mem_append.1 hy with hy | hy
          · exact hn.out y hy
          · rw [List.mem_singleton] at hy; rw [hy]; exact hp
        rw [hp] at hc
        clear hp hn
        go_wp2_with fail
        refine hc.mono ?_
        rintro e w1 ⟨rfl, hq1⟩
        go_wp2
        go_roundw
        case rel => exact ⟨k + 1, by omega, by go_num, hq.trans hq1, HP.out⟩
        case measure => simp [intOf]; omega
      · have HP := Lib.hid (HGD.out x HXE.out hp)
        rw [hp] at hc
        have HN := hn
        clear hp hn
        go_wp2_with fail
        refine hc.mono ?_
        rintro e w1 ⟨rfl, hq1⟩
        go_wp2
        go_ret
        exact ⟨hq.trans hq1, .inr ⟨k, HKL.out, rfl, HN.out, HP.out⟩⟩
    · have HP : Hid (∀ x ∈ l, p x = false) := fun x hx => hn.out x (by rw [List.take_of_length_le (by omega)]; exact hx)
      clear hn
      go_wp2
      go_ret
      exact ⟨hq, .inl ⟨rfl, HP.out⟩⟩
theorem Own.cut {w : World} {B g n c i : Nat} {xs : List Int} (h : Own w B (.slice (some ⟨g, 0, none⟩) n c) xs) (hi : i ≤ xs.length) : Own w B (.slice (some ⟨g, 0, none⟩) i c) (xs.take i) := by
  have hl : (xs.take i).length = i := by rw [List.length_take]; omega
  refine ⟨by rw [hl]; simp; omega, ?_⟩
  rcases h.2 with ⟨hv, _⟩ | ⟨g', cap, cur, hv, hB, hg, hnc, hcm, hcs, htk⟩
  · cases hv
  · simp at hv
    obtain ⟨rfl, rfl, rfl⟩ := hv
    refine .inr ⟨g, c, cur, by rw [hl], hB, hg, by rw [hl]; omega, hcm, hcs, ?_⟩
    have := congrArg (List.take i) htk
    rw [List.take_take] at this
    rw [hl, Nat.mul_one, List.map_take]
    rw [Nat.mul_one, Nat.min_eq_left hi] at this
    exact this
theorem Own.clr {B g n c : Nat} : ∀ (k o : Nat) {w : World} {xs : List Int}, Own w B (.slice (some ⟨g, 0, none⟩) n c) xs → ∃ ys, Own (w.setCells g o (List.replicate k (.int .i64 0))) B (.slice (some ⟨g, 0, none⟩) n c) ys ∧ ys.length = xs.length ∧ ∀ i, i ≤ o → ys.take i = xs.take i
  | 0, o, w, xs, h => ⟨xs, h, rfl, fun _ _ => rfl⟩
  | k + 1, o, w, xs, h => by
    obtain ⟨ys, h1, h2, h3⟩ := Own.clr k (o + 1) (h.store o 0)
    rw [List.length_set] at h2
    refine ⟨ys, h1, h2, fun i hi => ?_⟩
    rw [h3 i (by omega), List.take_set_of_le (by omega)]
theorem Kept.setCells {S : Nat → Prop} {g : Nat} (hS : S g) : ∀ (vs : List Value) (o : Nat) (w : World), Kept S w (w.setCells g o vs)
  | [], _, w => Kept.refl _ _
  | v :: r, o, w => ((Kept.setCell w ⟨g, o, none⟩ v).mono (fun k _ e => by rw [show k = g from e]; exact hS)).trans (Kept.setCells hS r (o + 1) _)
theorem drop_getD {a b : List Int} {j : Nat} (h : a.drop j = b.drop j) : a.getD j 0 = b.getD j 0 := by
  have := congrArg (fun t => t.getD 0 0) h
  simpa [List.getD] using this
set_option maxHeartbeats 1600000 in
set_option maxRecDepth 100000 in
theorem deletef_any (p : Int → Bool) (g B : Nat) (cb : Array Value) (v : Value) (l : List Int) (w : World)
    (eg : ∀ args w, (callFunc g args).run Tryz.prog w = .ok (.enter g args) w) (ht : ∀ W x, Kept (fun j => v.ownBlock = some j) w W → x ∈ l → Calls Tryz.prog g (#[.int .i64 x] ++ cb) W fun e w' => e = .returned (.bool (p x)) ∧ Quiet W w')
    (HO : Own w B v l) (h64 : In64 l) (hl : l.length ≤ 4000000) :
    Calls Tryz.prog 92 #[v, .func (.func g) #[] cb] w fun e w' => ∃ v', e = .returned v' ∧ Own w' B v' (l.filter (fun x => !p x)) ∧ Kept (fun j => v.ownBlock = some j) w w' := by
  have hquiet : ∀ {a b : World}, Quiet a b → Kept (fun j => v.ownBlock = some j) a b := fun h => by obtain ⟨m, rfl⟩ := h; exact ⟨rfl, rfl, rfl, Nat.le_refl _, fun _ _ _ => rfl⟩
  have hI := idxe_any p g cb v l w eg (fun W x hq hx => ht W x (hquiet hq) hx) (HO.ints (by omega) h64)
  have HT := Lib.hid ht
  have HQ : Hid (∀ a b : World, Quiet a b → Kept (fun j => v.ownBlock = some j) a b) := fun a b h => hquiet h
  have HOW := Lib.hid HO
  clear ht hquiet
  by_cases hall : ∀ x ∈ l, p x = false
  · have HI : Hid (Calls Tryz.prog 150 #[v, .func (.func g) #[] cb] w fun e w' => e = .returned (.int .i64 (-1)) ∧ Quiet w w') := hI.mono fun e w' h => by
      rcases h with ⟨hq, ⟨rfl, _⟩ | ⟨k, hk, _, _, h2⟩⟩
      · exact ⟨rfl, hq⟩
      · rw [hall _ (getD_mem hk)] at h2; cases h2
    have HF : Hid (l.filter (fun x => !p x) = l) := by
      show _ = _
      rw [List.filter_eq_self]
      intro x hx
      rw [hall x hx]; rfl
    clear hI hall
    obtain ⟨a, cap, rfl⟩ := own_shC HO
    clear HO
    go_enter Tryz.func92, Tryz.ntmps92
    go_wp2_with (go_at_call 150; refine HI.out.mono ?_; rintro e w1 ⟨rfl, hq⟩)
    go_ret
    exact ⟨_, rfl, by rw [HF.out]; exact HOW.out.quiet hq, HQ.out _ _ hq⟩
  · obtain ⟨k0, hk0⟩ : ∃ k0, l.findIdx p = k0 := ⟨_, rfl⟩
    have hex : ∃ x ∈ l, p x = true := by
      apply Classical.byContradiction
      intro hn
      exact hall (fun x hx => by cases e : p x with | false => rfl | true => exact absurd ⟨x, hx, e⟩ hn)
    have hlt0 : k0 < l.length := by rw [← hk0]; exact List.findIdx_lt_length_of_exists hex
    have hp0 : p (l.getD k0 0) = true := by
      subst hk0
      rw [show l.getD (l.findIdx p) 0 = l[l.findIdx p] from by simp [List.getD, hlt0]]
      exact List.findIdx_getElem
    have hnp : ∀ x ∈ l.take k0, p x = false := fun x hx => by
      obtain ⟨j, hj, rfl⟩ := List.mem_take_iff_getElem.1 hx
      subst hk0
      simpa using List.not_of_lt_findIdx (show j < l.findIdx p by omega)
    have HI : Hid (Calls Tryz.prog 150 #[v, .func (.func g) #[] cb] w fun e w' => e = .returned (.int .i64 (k0 : Int)) ∧ Quiet w w') := hI.mono fun e w' h => by
      rcases h with ⟨hq, ⟨_, h1⟩ | ⟨k, hk, rfl, h1, h2⟩⟩
      · exact absurd h1 hall
      · have : k = k0 := by
          rcases Nat.lt_trichotomy k k0 with h3 | h3 | h3
          · have := hnp (l.getD k 0) (by rw [show l.getD k 0 = (l.take k0)[k]'(by rw [List.length_take]; omega) from by simp [List.getD, hk]]; exact List.getElem_mem _)
            rw [h2] at this; cases this
          · exact h3
          · have := h1 (l.getD k0 0) (by rw [show l.getD k0 0 = (l.take k)[k0]'(by rw [List.length_take]; omega) from by simp [List.getD, hlt0]]; exact List.getElem_mem _)
            rw [hp0] at this; cases this
        subst this
        exact ⟨rfl, hq⟩
    have HF0 : Hid ((l.take (k0 + 1)).filter (fun x => !p x) = l.take k0) := by
      show _ = _
      rw [ints_take_succ hlt0, List.filter_append, List.filter_eq_self.2 (fun x hx => by rw [hnp x hx]; rfl)]
      simp only [List.filter_cons, hp0, List.filter_nil]
      simp
    clear hI hall hex hp0 hnp hk0
    obtain ⟨a, cap, rfl⟩ := own_shC HO
    obtain ⟨bt, rfl, hcap⟩ : ∃ bt, a = some ⟨bt, 0, none⟩ ∧ l.length ≤ cap := by
      rcases HO.2 with ⟨hv, h2⟩ | ⟨g', cap', cur, hv, _, _, hnc, _⟩
      · omega
      · injection hv with e1 _ e3
        subst e3
        exact ⟨g', e1, hnc⟩
    have HK0 := Lib.hid hlt0
    clear HO hlt0
    go_enter Tryz.func92, Tryz.ntmps92
    have hne1 : ((k0 : Int) == -1) = false := beq_eq_false_iff_ne.2 (by omega)
    have hk0b : k0 < 4000000 := by have := HK0.out; omega
    go_wp2_with (go_at_call 150; refine HI.out.mono ?_; rintro e w1 ⟨rfl, hq⟩)
    go_loopw [5, 6, 7] (fun s5 s6 s7 wr => ∃ (i j : Nat) (cs : List Int), s5 = .int .i64 i ∧ s6 = .int .i64 j ∧ j ≤ l.length ∧ i < j ∧ cs.length = l.length ∧ Own wr B (.slice (some ⟨bt, 0, none⟩) l.length cap) cs ∧ Hid (cs.take i = (l.take j).filter (fun x => !p x)) ∧ Hid (cs.drop j = l.drop j) ∧ Kept (fun j => some bt = some j) w wr) (fun _ s6 _ _ => l.length - (intOf s6).toNat)
    case atStart => exact ⟨k0, k0 + 1, l, rfl, by go_num, HK0.out, by omega, rfl, HOW.out.quiet hq, HF0.out.symm, rfl, HQ.out _ _ hq⟩
    case round =>
      obtain ⟨i, j, cs, rfl, rfl, hj, hij, hcl, ho, HTK, HDR, hkp⟩ := hrel
      have HO := Lib.hid ho
      have HKP := Lib.hid hkp
      have HCL := Lib.hid hcl
      clear ho hkp hcl
      by_cases hlt : j < l.length
      · have hu := HO.out.cell j (by rw [HCL.out]; exact hlt)
        have hv0 := HO.out.cell i (by rw [HCL.out]; omega)
        have hf0 := HO.out.frozen i
        rw [drop_getD HDR.out] at hu
        have HTJ := Lib.hid (ints_take_succ hlt)
        have HLJ := Lib.hid hlt
        have hic : i < cs.length := by rw [HCL.out]; omega
        have HIC := Lib.hid hic
        have HTU := Lib.hid (HT.out wr _ HKP.out (getD_mem hlt))
        have HD1 : Hid (cs.drop (j + 1) = l.drop (j + 1)) := by
          have h := congrArg (List.drop 1) HDR.out
          rw [List.drop_drop, List.drop_drop] at h
          exact h
        have hjb : j < 4000000 := by omega
        have hib : i < 4000000 := by omega
        have hil : (i : Int) < (l.length : Int) := by omega
        have hi0 : (0 : Int) ≤ (i : Int) := by omega
        clear hlt hic
        generalize l.getD j 0 = u at *
        generalize cs.getD i 0 = old at *
        cases hpu : p u with
        | false =>
          rw [hpu] at HTU
          have HFJ : Hid ((l.take (j + 1)).filter (fun x => !p x) = (l.take j).filter (fun x => !p x) ++ [u]) := by
            show _ = _
            rw [HTJ.out, List.filter_append]
            simp only [List.filter_cons, hpu, List.filter_nil]
            simp
          clear hpu
          go_wp2_with fail
          refine HTU.out.mono ?_
          rintro e wq ⟨rfl, hqq⟩
          have hv1 := (hqq.cell _).trans hv0
          have hf1 : wq.frozen? ⟨bt, i, none⟩ = false := (HO.out.quiet hqq).frozen i
          have HOS := Lib.hid ((HO.out.quiet hqq).store i u)
          have HKS : Hid (Kept (fun j => some bt = some j) w (wq.setCell ⟨bt, i, none⟩ (.int .i64 u))) := (HKP.out.trans (HQ.out _ _ hqq)).trans ((Kept.setCell wq ⟨bt, i, none⟩ _).mono (fun k _ e => by rw [show k = bt from e]))
          go_wp2
          go_roundw
          case rel =>
            refine ⟨i + 1, j + 1, cs.set i u, by go_num, by go_num, HLJ.out, by omega, by rw [List.length_set]; exact HCL.out, HOS.out, ?_, ?_, HKS.out⟩
            · show _ = _
              rw [HFJ.out, ← HTK.out, List.take_succ_eq_append_getElem (by rw [List.length_set]; exact HIC.out), List.take_set_of_le (by omega)]
              simp
            · show _ = _
              rw [List.drop_set_of_lt (by omega)]
              exact HD1.out
          case measure => have := HLJ.out; simp [intOf]; omega
        | true =>
          rw [hpu] at HTU
          have HFJ : Hid ((l.take (j + 1)).filter (fun x => !p x) = (l.take j).filter (fun x => !p x)) := by
            show _ = _
            rw [HTJ.out, List.filter_append]
            simp only [List.filter_cons, hpu, List.filter_nil]
            simp
          clear hpu
          go_wp2_with fail
          refine HTU.out.mono ?_
          rintro e wq ⟨rfl, hqq⟩
          go_wp2
          go_roundw
          case rel => exact ⟨i, j + 1, cs, rfl, by go_num, HLJ.out, by omega, HCL.out, HO.out.quiet hqq, by show _ = _; rw [HFJ.out]; exact HTK.out, HD1.out, HKP.out.trans (HQ.out _ _ hqq)⟩
          case measure => have := HLJ.out; simp [intOf]; omega
      · obtain rfl : j = l.length := by omega
        have hcl : ∀ ty, (Builtin.clear_ #[22] ty #[.slice (some ⟨bt, i, none⟩) (l.length - i) (cap - i)]).run Tryz.prog wr = .ok (.tuple #[]) (wr.setCells bt i (List.replicate (l.length - i) (.int .i64 0))) :=
          fun ty => Lib.run_clear_slice wr _ _ ty _ Tryz.underlying22 (fun w => zero_intM w) rfl rfl bt i _ _ (by omega) (fun t ht => by rw [HO.out.cell (i + t) (by rw [HCL.out]; omega)]; rfl) (fun t ht => HO.out.frozen (i + t))
        obtain ⟨ys, h1, h2, h3⟩ := Own.clr (l.length - i) i HO.out
        have HR := Lib.hid (h1.cut (i := i) (by rw [h2, HCL.out]; omega))
        have HE : Hid (ys.take i = l.filter (fun x => !p x)) := by
          show _ = _
          rw [h3 i (Nat.le_refl _), HTK.out, List.take_length]
        have HKF : Hid (Kept (fun j => some bt = some j) w (wr.setCells bt i (List.replicate (l.length - i) (.int .i64 0)))) := HKP.out.trans (Kept.setCells (S := fun j => some bt = some j) rfl _ _ _)
        have hil : i < l.length := hij
        have hic : i < cap := by omega
        have hne : ¬ i = cap := by omega
        clear h1 h2 h3
        go_wp2
        go_ret
        exact ⟨_, rfl, by rw [← HE.out]; exact HR.out, HKF.out⟩
end Go.Proofs.YtppglbffmgnooaaGreat
