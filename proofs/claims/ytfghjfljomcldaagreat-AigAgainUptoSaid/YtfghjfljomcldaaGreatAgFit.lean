/- skolemlaw06.fit: edges brought into a graph's range. -/
import Derived.Test.YtfghjfljomcldaaGreatA13
namespace Go.Proofs.YtfghjfljomcldaaGreat
open Go.RowKit Go.Maps
set_option linter.unusedVariables false
set_option linter.unusedSimpArgs false

theorem wrap_in {a : Int} (h1 : -9223372036854775808 ≤ a) (h2 : a ≤ 9223372036854775807) : IntKind.i64.wrap a = a := by
  unfold IntKind.wrap
  simp only [IntKind.signed, IntKind.bits]
  simp
  try omega
def fit1 (n : Nat) (e : Int) : Int := (e.tmod (2 * (n : Int)) + 2 * (n : Int)).tmod (2 * (n : Int))
def fitI (n : Nat) (l : List Int) : List Int := l.map (fit1 n)
theorem fit1_bd {n : Nat} (hn : 1 ≤ n) (e : Int) : 0 ≤ fit1 n e ∧ fit1 n e < 2 * (n : Int) := by
  unfold fit1
  have h0 : (0 : Int) < 2 * (n : Int) := by omega
  have h1 := Int.lt_tmod_of_pos e h0
  have h2 : (0 : Int) ≤ e.tmod (2 * (n : Int)) + 2 * (n : Int) := by omega
  exact ⟨Int.tmod_nonneg _ h2, Int.tmod_lt_of_pos _ h0⟩
theorem fitI_edges {n : Nat} (hn : 1 ≤ n) (l : List Int) : edgesB (fitI n l) n = true := by
  unfold edgesB fitI
  rw [Bool.not_eq_true', List.any_eq_false]
  intro x hx
  obtain ⟨e, _, rfl⟩ := List.mem_map.1 hx
  have := fit1_bd hn e
  have h2 : isE (fit1 n e) n = true := by unfold isE; simp; omega
  simp [h2]
set_option maxRecDepth 100000 in
set_option maxHeartbeats 3200000 in
theorem fit_any (v : Value) (l : List Int) (n : Nat) (w : World) (HL : IsInts w v l) (h1 : l.length ≤ 4000000) (hn1 : 1 ≤ n) (hn2 : n ≤ 10000000) :
    Calls Tryz.prog 47 #[v, .int .i64 (n : Int)] w fun r w' => ∃ u, r = .returned u ∧ Own w' w.heap.size u (fitI n l) ∧ Below w.heap.size w w' := by
  have HL64 := Lib.hid HL.in64
  obtain ⟨ia, ic, rfl⟩ := HL.shape
  have HLH := Lib.hid HL
  clear HL
  have HNZ : Hid ((1 : Int) ≤ (n : Int) ∧ (n : Int) ≤ 10000000) := ⟨by omega, by omega⟩
  have HNN := Lib.hid hn1
  have HDF : Hid (∀ e, fit1 n e = (e.tmod (2 * (n : Int)) + 2 * (n : Int)).tmod (2 * (n : Int))) := fun _ => rfl
  have HBD : Hid (∀ e, 0 ≤ fit1 n e ∧ fit1 n e < 2 * (n : Int)) := fit1_bd hn1
  have HSC : Hid (∀ k, k < l.length → fitI n (l.take (k + 1)) = fitI n (l.take k) ++ [fit1 n (l.getD k 0)]) := fun k hk => by
    unfold fitI; rw [List.take_succ_eq_append_getElem hk, List.map_append]; simp [List.getD, hk]
  have HALL : Hid (fitI n (l.take l.length) = fitI n l) := by show _ = _; rw [List.take_length]
  have HZ : Hid (fitI n (l.take 0) = []) := rfl
  have HLN : Hid (∀ k, (fitI n (l.take k)).length ≤ k) := fun k => by unfold fitI; rw [List.length_map]; exact List.length_take_le _ _
  generalize hnz : (n : Int) = nz at *
  generalize fit1 n = F at *
  generalize hfi : (fun k => fitI n (l.take k)) = T at *
  have HT : Hid (∀ k, fitI n (l.take k) = T k) := fun k => by rw [← hfi]
  have hb1 := HNZ.out.1
  have hb2 := HNZ.out.2
  clear hnz hfi hn1 hn2
  go_enter Tryz.func47, Tryz.ntmps47
  go_wp2
  go_loopw [5, 10] (fun out s3 wr => ∃ k : Nat, k ≤ l.length ∧ s3 = .int .i64 k ∧ Own wr w.heap.size out (T k) ∧ Below w.heap.size w wr) (fun _ s3 _ => l.length - (intOf s3).toNat)
  case atStart => exact ⟨0, Nat.zero_le _, rfl, by rw [← HT.out, HZ.out]; exact Own.nil _ _, Below.refl _ _⟩
  case round =>
    obtain ⟨k, hk, rfl, ho, hb⟩ := hrel
    have HOR := Lib.hid ho
    have HB := Lib.hid hb
    clear hb ho
    by_cases hlt : k < l.length
    · obtain ⟨b, off, rfl, hbl, hx0⟩ := HLH.out.cellY hlt
      have hx := (HB.out.cell (p := ⟨b, off + k, none⟩) hbl).trans hx0
      have HSK := HSC.out k hlt
      rw [HT.out, HT.out] at HSK
      have HSK := Lib.hid HSK
      have hlen : (T k).length < 17592186044416 := by rw [← HT.out]; have := HLN.out k; omega
      have HLEN := Lib.hid hlen
      have HKL := Lib.hid hlt
      have hkb : k < 4000000 := by omega
      have hkz : (k : Int) < (l.length : Int) := by omega
      have hF := HDF.out (l.getD k 0)
      have hFb := HBD.out (l.getD k 0)
      have h64 := HL64.out (l.getD k 0) (by simp [List.getD, hlt])
      clear hx0 hlt hlen
      generalize l.getD k 0 = e at *
      generalize F e = c at *
      obtain ⟨t, ht⟩ : ∃ t : Int, 2 * nz = t := ⟨_, rfl⟩
      have ht1 : 2 ≤ t := by omega
      have ht2 : t ≤ 20000000 := by omega
      rw [ht] at hF hFb
      have ha1 := Int.lt_tmod_of_pos e (show (0 : Int) < t by omega)
      have ha2 := Int.tmod_lt_of_pos e (show (0 : Int) < t by omega)
      obtain ⟨a, ha⟩ : ∃ a : Int, e.tmod t = a := ⟨_, rfl⟩
      rw [ha] at hF ha1 ha2
      have hc : (a + t).tmod t = c := hF.symm
      clear hF
      have hw1 : IntKind.i64.wrap (e.tmod t) = a := by rw [ha]; exact wrap_in (by omega) (by omega)
      have hw2 : IntKind.i64.wrap ((a + t).tmod t) = c := by rw [hc]; exact wrap_in (by omega) (by omega)
      go_wp2_with (at_builtin; go_loud (refine wpList_app1A rfl _ _ rfl w.heap.size _ _ c wr.heap.size rfl rfl (HOR.out.alloc _) (cell_fresh rfl) HLEN.out (by simp; have := HB.out.size; omega) ?_; intro u' w' ho' hg' _; have HO' := Lib.hid ho'; have HG' := Lib.hid hg'; clear ho' hg'))
      go_roundw
      case rel => exact ⟨k + 1, HKL.out, by go_num, by rw [HSK.out]; exact HO'.out, (HB.out.alloc HB.out.size _).grown HG'.out (by have := HB.out.size; simp; omega) (fun j e => (HOR.out.lt j e).1)⟩
      case measure => have := HKL.out; simp [intOf]; omega
    · obtain rfl : k = l.length := by omega
      have HA := Lib.hid HALL.out
      go_wp2
      go_ret
      exact ⟨_, rfl, by rw [← HALL.out, HT.out]; exact HOR.out, HB.out⟩
end Go.Proofs.YtfghjfljomcldaaGreat
