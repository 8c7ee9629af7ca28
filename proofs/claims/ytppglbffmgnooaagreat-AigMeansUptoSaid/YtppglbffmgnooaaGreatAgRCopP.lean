/- Pure: what the reference's copied makes is what a copier makes. -/
import Derived.Test.YtppglbffmgnooaaGreatA01
import Derived.Test.YtppglbffmgnooaaGreatB11
namespace Go.Proofs.YtppglbffmgnooaaGreat
set_option linter.unusedVariables false
set_option linter.unusedSimpArgs false

def rcIn (nn : Nat) (ins : List Int) (m : Nat) : List Int := (List.range m).foldl (fun t i => t.set (i + 1) (ins.getD i 0)) (List.replicate nn 0)
theorem rcIn_succ (nn : Nat) (ins : List Int) (m : Nat) : rcIn nn ins (m + 1) = (rcIn nn ins m).set (m + 1) (ins.getD m 0) := by unfold rcIn; rw [List.range_succ, List.foldl_append]; rfl
theorem rcIn_len (nn : Nat) (ins : List Int) (m : Nat) : (rcIn nn ins m).length = nn := by
  induction m with
  | zero => unfold rcIn; simp
  | succ m ih => rw [rcIn_succ, List.length_set, ih]
theorem rcIn_at {nn : Nat} {ins : List Int} : ∀ {m : Nat}, m < nn → ∀ n, n < nn → (rcIn nn ins m).getD n 0 = if 1 ≤ n ∧ n ≤ m then ins.getD (n - 1) 0 else 0 := by
  intro m
  induction m with
  | zero =>
    intro _ n hn
    rw [if_neg (by omega)]
    unfold rcIn
    simp [List.getD, List.getElem?_replicate, hn]
  | succ m ih =>
    intro hm n hn
    rw [rcIn_succ, getD_setI (by rw [rcIn_len]; exact hm)]
    by_cases e : n = m + 1
    · subst e
      rw [if_pos rfl, if_pos ⟨by omega, by omega⟩]
      rfl
    · rw [if_neg e, ih (by omega) n hn]
      by_cases c : 1 ≤ n ∧ n ≤ m
      · rw [if_pos c, if_pos ⟨c.1, by omega⟩]
      · rw [if_neg c, if_neg (by omega)]
def rcStep (k kg : Nat) (A : List Pr) (R : List Bool) (st : List Int × Mq) (i : Nat) : List Int × Mq := if R.getD (kg + i) false = true then cpAnd kg A k st ((kg + i : Nat) : Int) else st
def rcTo (k kg : Nat) (A : List Pr) (R : List Bool) (st : List Int × Mq) (m : Nat) : List Int × Mq := (List.range m).foldl (rcStep k kg A R) st
theorem rcTo_succ (k kg : Nat) (A : List Pr) (R : List Bool) (st : List Int × Mq) (m : Nat) : rcTo k kg A R st (m + 1) = rcStep k kg A R (rcTo k kg A R st m) m := by unfold rcTo; rw [List.range_succ, List.foldl_append]; rfl
/-- All that copied comes to. -/
def rcAll (k : Nat) (I : List Int) (A : List Pr) (ins l : List Int) (s : Mq) : List Int × Mq := rcTo k (1 + I.length) A (reachA (1 + I.length) A l) (rcIn (1 + I.length + A.length) ins ins.length, s) A.length
theorem rcTo_ok {k kg : Nat} {A : List Pr} {R : List Bool} {s : Mq} {st : List Int × Mq} (hk : 1 ≤ k) (hA : okUpto kg A A.length = true) (h : CpOk k (kg + A.length) s st) : ∀ m, m ≤ A.length → CpOk k (kg + A.length) s (rcTo k kg A R st m)
  | 0, _ => h
  | m + 1, hm => by
    have ih := rcTo_ok hk hA h (R := R) m (by omega)
    rw [rcTo_succ]
    unfold rcStep
    split
    · have hb := okPair_bd hA (i := m) (by omega)
      unfold cpAnd
      have e : ((kg + m : Nat) : Int).toNat - kg = m := by omega
      rw [e, show ((kg + m : Nat) : Int).toNat = kg + m from by omega]
      exact ih.step hk ⟨hb.1.1, by omega⟩ ⟨hb.2.1, by omega⟩ (kg + m)
    · exact ih
theorem rcIn_ok {k nn : Nat} {ins : List Int} {s : Mq} (hk : 1 ≤ k) (hs : MOk k s) (hn : ins.length < nn) (hi : ∀ x ∈ ins, isE x (k + s.1.length) = true) : CpOk k nn s (rcIn nn ins ins.length, s) := by
  refine ⟨rcIn_len _ _ _, fun x hx => ?_, ⟨[], by simp⟩, hs, fun e => e⟩
  obtain ⟨n, hn', rfl⟩ := List.getElem_of_mem hx
  have hnn : n < nn := by rw [rcIn_len] at hn'; exact hn'
  have h1 := rcIn_at (ins := ins) hn n hnn
  rw [show (rcIn nn ins ins.length)[n] = (rcIn nn ins ins.length).getD n 0 by simp [List.getD, hn'], h1]
  split
  · rename_i c
    have : n - 1 < ins.length := by omega
    exact hi _ (by simp [List.getD, this])
  · rw [isE_true]; omega
/-- Two lists of images agree on the nodes that are reached. -/
def Agr (R : List Bool) (nn : Nat) (t u : List Int) : Prop := t.length = nn ∧ u.length = nn ∧ ∀ n, R.getD n false = true → t.getD n 0 = u.getD n 0
theorem Agr.mov {R : List Bool} {nn : Nat} {t u : List Int} (h : Agr R nn t u) {e : Int} (he : R.getD (e / 2).toNat false = true) : movE t e = movE u e := by
  unfold movE
  rw [h.2.2 _ he]
theorem rcTo_agr {k kg : Nat} {A : List Pr} {l : List Int} {s : Mq} {t u : List Int} (hA : okUpto kg A A.length = true) (hl : edgesB l (kg + A.length) = true) (h : Agr (reachA kg A l) (kg + A.length) t u) : ∀ m, m ≤ A.length →
    (rcTo k kg A (reachA kg A l) (t, s) m).2 = ((onN (reachA kg A l) kg m).foldl (cpAnd kg A k) (u, s)).2 ∧ Agr (reachA kg A l) (kg + A.length) (rcTo k kg A (reachA kg A l) (t, s) m).1 ((onN (reachA kg A l) kg m).foldl (cpAnd kg A k) (u, s)).1
  | 0, _ => ⟨rfl, h⟩
  | m + 1, hm => by
    obtain ⟨i1, i2⟩ := rcTo_agr (k := k) (s := s) hA hl h m (by omega)
    rw [rcTo_succ, onN_succ]
    unfold rcStep
    by_cases hr : (reachA kg A l).getD (kg + m) false = true
    · rw [if_pos hr, if_pos hr, List.foldl_append]
      have hrm := (reach_iff hA hl).1 hr
      have r1 := (reach_iff hA hl).2 (RchN.fst (by omega) hrm)
      have r2 := (reach_iff hA hl).2 (RchN.snd (by omega) hrm)
      generalize rcTo k kg A (reachA kg A l) (t, s) m = a at *
      generalize (onN (reachA kg A l) kg m).foldl (cpAnd kg A k) (u, s) = b at *
      obtain ⟨a1, a2⟩ := a
      obtain ⟨b1, b2⟩ := b
      simp only at i1 i2
      subst i1
      show (cpAnd kg A k (a1, a2) ((kg + m : Nat) : Int)).2 = (cpAnd kg A k (b1, a2) ((kg + m : Nat) : Int)).2 ∧ _
      unfold cpAnd
      have e : ((kg + m : Nat) : Int).toNat - kg = m := by omega
      simp only [e, List.foldl_cons, List.foldl_nil]
      rw [i2.mov r1, i2.mov r2]
      refine ⟨rfl, by rw [List.length_set]; exact i2.1, by rw [List.length_set]; exact i2.2.1, fun n hn => ?_⟩
      have hlt : ((kg + m : Nat) : Int).toNat < kg + A.length := by omega
      rw [getD_setI (by rw [i2.1]; exact hlt), getD_setI (by rw [i2.2.1]; exact hlt)]
      split
      · rfl
      · exact i2.2.2 n hn
    · rw [if_neg hr, if_neg hr, List.append_nil]
      exact ⟨i1, i2⟩
/-- The reference's copied gives a copier's edges and graph. -/
theorem rcAll_eq {k : Nat} {I : List Int} {A : List Pr} {img : Int → Int} {l : List Int} {s : Mq} (hA : okUpto (1 + I.length) A A.length = true) (hl : edgesB l (1 + I.length + A.length) = true) :
    l.map (movE (rcAll k I A (I.map img) l s).1) = (copyA k I A img l s).1 ∧ (rcAll k I A (I.map img) l s).2 = (copyA k I A img l s).2 := by
  have h0 : Agr (reachA (1 + I.length) A l) (1 + I.length + A.length) (rcIn (1 + I.length + A.length) (I.map img) (I.map img).length) (cpIns I A img l) := by
    refine ⟨rcIn_len _ _ _, by unfold cpIns; rw [cpIns_len, List.length_replicate], fun n hn => ?_⟩
    have hnn := rch_lt hA hl ((reach_iff hA hl).1 hn)
    rw [rcIn_at (by rw [List.length_map]; omega) n hnn]
    unfold cpIns
    rw [cpIns_at _ _ (fun y hy => by obtain ⟨i, rfl, _⟩ := onN_mem.1 hy; omega) n (by rw [List.length_replicate]; exact hnn)]
    rw [List.length_map]
    by_cases c : 1 ≤ n ∧ n ≤ I.length
    · rw [if_pos c, if_pos (onN_mem.2 ⟨n, rfl, c.1, by omega, hn⟩)]
      have hlt : n - 1 < I.length := by omega
      simp [List.getD, hlt]
    · rw [if_neg c, if_neg (fun hm => by
        obtain ⟨i, e, h1, h2, _⟩ := onN_mem.1 hm
        omega)]
      simp [List.getD, List.getElem?_replicate, hnn]
  obtain ⟨h1, h2⟩ := rcTo_agr (k := k) (s := s) hA hl h0 A.length (Nat.le_refl _)
  refine ⟨?_, h1⟩
  unfold copyA
  exact List.map_congr_left (fun e he => h2.mov ((reach_iff hA hl).2 (RchN.edge he)))
end Go.Proofs.YtppglbffmgnooaaGreat
