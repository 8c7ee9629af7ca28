/- Joined texts: CxPOut, CxPSim. -/
import Derived.Test.YtafenijbglcppaaK19
import Derived.Test.YtafenijbglcppaaK14
/- What becomes of a gate means what the gate does (no program). -/
namespace Go.Proofs.Ytafenijbglcppaa
open Go.RowKit Go.Maps
set_option linter.unusedVariables false
set_option linter.unusedSimpArgs false

theorem varC_neg {x : Int} (h : -9223372036854775808 < x ∧ x < 9223372036854775808) : varC (-x) = varC x := by
  unfold varC
  by_cases h1 : x < 0
  · rw [if_pos h1, if_neg (show ¬ -x < 0 by omega), if_neg (show ¬ x = -9223372036854775808 by omega)]
  · rw [if_neg h1]
    by_cases h2 : 0 < x
    · rw [if_pos (by omega), if_neg (by omega), Int.neg_neg]
    · obtain rfl : x = 0 := by omega
      simp
/-- A number with a variable's or a constant's meaning. -/
def okM (x : Int) : Prop := x ≠ 0 ∧ -65537 ≤ x ∧ x ≤ 65537
theorem litV_neg {h : Int → Bool} {x : Int} (hx : okM x) : litV h (-x) = !litV h x := by
  obtain ⟨h0, h1, h2⟩ := hx
  unfold litV
  rw [varC_neg (by omega)]
  by_cases hp : 0 < x
  · have e1 : decide (0 < -x) = false := by simp; omega
    have e2 : decide (0 < x) = true := by simpa using hp
    rw [e1, e2]
    cases h (varC x) <;> rfl
  · have e1 : decide (0 < -x) = true := by simp; omega
    have e2 : decide (0 < x) = false := by simpa using hp
    rw [e1, e2]
    cases h (varC x) <;> rfl
theorem okM_neg {x : Int} (h : okM x) : okM (-x) := by unfold okM at h ⊢; omega
/-- One of them has the value that decides. -/
def decL (d : Bool) (h : Int → Bool) (l : List Int) : Bool := l.any (fun x => litV h x == d)
theorem decL_app (d : Bool) (h : Int → Bool) (l m : List Int) : decL d h (l ++ m) = (decL d h l || decL d h m) := by unfold decL; rw [List.any_append]
theorem decL_mem {d : Bool} {h : Int → Bool} {l : List Int} {x : Int} (hx : x ∈ l) (e : litV h x = d) : decL d h l = true := by
  unfold decL
  exact List.any_eq_true.2 ⟨x, hx, by simp [e]⟩
theorem mrg_means {idle : Int} {d : Bool} {h : Int → Bool} (hi : litV h idle = !d) (hn : litV h (-idle) = d) : ∀ (l left : List Int), (∀ x ∈ l, okM x) →
    (mrgL idle left l = none → decL d h (left ++ l) = true) ∧ ∀ r, mrgL idle left l = some r → decL d h (left ++ l) = decL d h r
  | [], left, _ => by
    unfold mrgL
    refine ⟨fun e => (by cases e), fun r e => ?_⟩
    injection e with e
    rw [List.append_nil, e]
  | x :: t, left, hl => by
    have hx := hl x (List.mem_cons_self ..)
    have ih := fun left' => mrg_means hi hn t left' (fun z hz => hl z (List.mem_cons_of_mem _ hz))
    unfold mrgL
    by_cases h1 : x = -idle ∨ -x ∈ left
    · rw [if_pos h1]
      refine ⟨fun _ => ?_, fun r e => (by cases e)⟩
      rcases h1 with h1 | h1
      · exact decL_mem (x := x) (by simp) (by rw [h1]; exact hn)
      · cases hv : litV h x == d with
        | true => exact decL_mem (x := x) (by simp) (by simpa using hv)
        | false =>
          refine decL_mem (x := -x) (by simp [h1]) ?_
          rw [litV_neg hx]
          revert hv
          cases litV h x <;> cases d <;> simp
    · rw [if_neg h1]
      by_cases h2 : x ≠ idle ∧ x ∉ left
      · rw [if_pos h2]
        have := ih (left ++ [x])
        rw [List.append_assoc] at this
        exact this
      · rw [if_neg h2]
        have hs : decL d h (left ++ x :: t) = decL d h (left ++ t) := by
          rw [decL_app, decL_app]
          show (_ || (litV h x == d || decL d h t)) = _
          by_cases hxi : x = idle
          · rw [hxi, hi]
            cases d <;> simp
          · have hin : x ∈ left := Decidable.byContradiction fun hh => h2 ⟨hxi, hh⟩
            cases hv : litV h x == d with
            | false => simp
            | true =>
              have : decL d h left = true := decL_mem hin (by simpa using hv)
              rw [this]; simp
        rw [hs]
        exact ih left
theorem mrg_keeps {idle : Int} : ∀ (l left r : List Int), mrgL idle left l = some r → (∀ x ∈ left, x ≠ idle ∧ x ≠ -idle) → ∀ x ∈ r, (x ∈ left ∨ x ∈ l) ∧ x ≠ idle ∧ x ≠ -idle
  | [], left, r, e, hl, x, hx => by
    unfold mrgL at e
    injection e with e
    subst e
    exact ⟨.inl hx, hl x hx⟩
  | y :: t, left, r, e, hl, x, hx => by
    unfold mrgL at e
    split at e
    · cases e
    · rename_i h1
      split at e
      · rename_i h2
        have h3 := mrg_keeps t (left ++ [y]) r e (fun z hz => by
          rcases List.mem_append.1 hz with h4 | h4
          · exact hl z h4
          · rw [List.mem_singleton] at h4
            subst h4
            exact ⟨h2.1, fun e => h1 (.inl e)⟩) x hx
        refine ⟨?_, h3.2⟩
        rcases h3.1 with h4 | h4
        · rcases List.mem_append.1 h4 with h5 | h5
          · exact .inl h5
          · rw [List.mem_singleton] at h5; subst h5; exact .inr (List.mem_cons_self ..)
        · exact .inr (List.mem_cons_of_mem _ h4)
      · have h3 := mrg_keeps t left r e hl x hx
        refine ⟨?_, h3.2⟩
        rcases h3.1 with h4 | h4
        · exact .inl h4
        · exact .inr (List.mem_cons_of_mem _ h4)
/-- What a gate's outcome says, given the meanings of its literals. -/
structure OcSays (h : Int → Bool) (v : Bool) (l : List Int) (o : Oc) : Prop where
  gone : o.1 = 0 → litV h o.2.2 = v ∧ (o.2.2 = 65537 ∨ o.2.2 = -65537 ∨ o.2.2 ∈ l ∨ -o.2.2 ∈ l)
  stays : o.1 ≠ 0 → gateV h o.1 o.2.1 = v ∧ fitsB o.1 o.2.1.length = true ∧ o.2.1.length ≤ l.length ∧ ∀ x ∈ o.2.1, (x ∈ l ∨ -x ∈ l) ∧ x ≠ 65537 ∧ x ≠ -65537
theorem gate_and (h : Int → Bool) (l : List Int) : gateV h 1 l = !decL false h l := by
  have e1 : gateV h 1 l = l.all (litV h) := rfl
  rw [e1]
  clear e1
  unfold decL
  induction l with
  | nil => rfl
  | cons x r ih => rw [List.all_cons, List.any_cons, ih]; cases litV h x <;> simp
theorem gate_or (h : Int → Bool) (l : List Int) : gateV h 2 l = decL true h l := by
  have e1 : gateV h 2 l = l.any (litV h) := rfl
  rw [e1]
  unfold decL
  congr 1
  funext x
  cases litV h x <;> rfl
theorem merged_says {h : Int → Bool} {k idle : Int} {d : Bool} {l : List Int} (hk : k = 1 ∧ idle = 65537 ∧ d = false ∨ k = 2 ∧ idle = -65537 ∧ d = true) (hi : litV h idle = !d) (hn : litV h (-idle) = d) (hl : ∀ x ∈ l, okM x) :
    OcSays h (gateV h k l) l (mergedF k l idle) := by
  have hm := mrg_means hi hn l [] hl
  simp only [List.nil_append] at hm
  have hg : ∀ m, gateV h k m = (decL d h m == d) := fun m => by
    rcases hk with ⟨rfl, _, rfl⟩ | ⟨rfl, _, rfl⟩
    · rw [gate_and]; cases decL false h m <;> rfl
    · rw [gate_or]; cases decL true h m <;> rfl
  have hii : idle = 65537 ∨ idle = -65537 := by rcases hk with ⟨_, h1, _⟩ | ⟨_, h1, _⟩ <;> simp [h1]
  have hk0 : k ≠ 0 := by omega
  unfold mergedF
  split
  · rename_i e
    have h1 := hm.1 e
    refine ⟨fun _ => ⟨?_, ?_⟩, fun h0 => absurd rfl h0⟩
    · show litV h (-idle) = _
      rw [hn, hg, h1]
      cases d <;> rfl
    · show -idle = _ ∨ -idle = _ ∨ _
      omega
  · rename_i e
    have h1 := hm.2 _ e
    refine ⟨fun _ => ⟨?_, ?_⟩, fun h0 => absurd rfl h0⟩
    · show litV h idle = _
      rw [hi, hg, h1]
      cases d <;> rfl
    · show idle = _ ∨ idle = _ ∨ _
      omega
  · rename_i y e
    have h1 := hm.2 _ e
    have h2 := mrg_keeps l [] [y] e (by simp) y (by simp)
    refine ⟨fun _ => ⟨?_, .inr (.inr (.inl (by simpa using h2.1)))⟩, fun h0 => absurd rfl h0⟩
    show litV h y = _
    rw [hg, h1]
    unfold decL
    simp only [List.any_cons, List.any_nil, Bool.or_false]
    cases litV h y <;> cases d <;> rfl
  · rename_i r h3 h4 e
    have h1 := hm.2 _ e
    refine ⟨fun h0 => absurd h0 hk0, fun _ => ⟨?_, ?_, ?_, fun x hx => ?_⟩⟩
    · show gateV h k r = _
      rw [hg, hg, h1]
    · show fitsB k r.length = true
      unfold fitsB
      rw [if_pos (by omega)]
    · have := (mrgL_mem e).2
      simpa using this
    · have h2 := mrg_keeps l [] r e (by simp) x hx
      exact ⟨.inl (by simpa using h2.1), by omega, by omega⟩
theorem xor_says {h : Int → Bool} {a b : Int} (ht : h 65537 = true) (ha : okM a) (hb : okM b) : OcSays h (litV h a != litV h b) [a, b] (xorF a b) := by
  have t1 : litV h 65537 = true := by unfold litV; rw [show varC 65537 = 65537 from rfl, ht]; rfl
  have t2 : litV h (-65537) = false := by unfold litV; rw [show varC (-65537) = 65537 from rfl, ht]; rfl
  have one : ∀ {x : Int}, litV h x = (litV h a != litV h b) → (x = 65537 ∨ x = -65537 ∨ x ∈ [a, b] ∨ -x ∈ [a, b]) → OcSays h (litV h a != litV h b) [a, b] (0, [], x) := fun h1 h2 => ⟨fun _ => ⟨h1, h2⟩, fun h0 => absurd rfl h0⟩
  unfold xorF
  split
  · rename_i h1
    exact one (by rw [h1, t2]; cases litV h b <;> rfl) (by simp)
  · split
    · rename_i _ h1
      exact one (by rw [h1, t1, litV_neg hb]; cases litV h b <;> rfl) (by simp)
    · split
      · rename_i h1
        exact one (by rw [h1, t2]; cases litV h a <;> rfl) (by simp)
      · split
        · rename_i h1
          exact one (by rw [h1, t1, litV_neg ha]; cases litV h a <;> rfl) (by simp)
        · split
          · rename_i h1
            exact one (by rw [h1, t2]; cases litV h b <;> rfl) (by simp)
          · split
            · rename_i h1
              exact one (by rw [h1, t1, litV_neg hb]; cases litV h b <;> rfl) (by simp)
            · refine ⟨fun h0 => by simp at h0, fun _ => ⟨rfl, rfl, by simp, fun x hx => ?_⟩⟩
              simp only [List.mem_cons, List.not_mem_nil, or_false] at hx
              rcases hx with rfl | rfl
              · exact ⟨.inl (by simp), by omega, by omega⟩
              · exact ⟨.inl (by simp), by omega, by omega⟩
theorem two_says {h : Int → Bool} {k idle c b p q : Int} {d v : Bool} {l : List Int} (hk : k = 1 ∧ idle = 65537 ∧ d = false ∨ k = 2 ∧ idle = -65537 ∧ d = true) (hi : litV h idle = !d) (hn : litV h (-idle) = d) (hc : okM c) (hb : okM b) (hv : gateV h k [c, b] = v) (hl : 2 ≤ l.length) (hs : ∀ x, x ∈ [c, b] → x ∈ l ∨ -x ∈ l) :
    OcSays h v l (mergedF k [c, b] idle) := by
  have hm := merged_says (l := [c, b]) hk hi hn (fun x hx => by simp only [List.mem_cons, List.not_mem_nil, or_false] at hx; rcases hx with rfl | rfl <;> assumption)
  refine ⟨fun h0 => ?_, fun h0 => ?_⟩
  · have h1 := hm.gone h0
    refine ⟨by rw [h1.1, hv], ?_⟩
    rcases h1.2 with h2 | h2 | h2 | h2
    · exact .inl h2
    · exact .inr (.inl h2)
    · exact .inr (.inr (hs _ h2))
    · rcases hs _ h2 with h3 | h3
      · exact .inr (.inr (.inr h3))
      · rw [Int.neg_neg] at h3; exact .inr (.inr (.inl h3))
  · have h1 := hm.stays h0
    refine ⟨by rw [h1.1, hv], h1.2.1, Nat.le_trans h1.2.2.1 hl, fun x hx => ?_⟩
    have h2 := h1.2.2.2 x hx
    refine ⟨?_, h2.2⟩
    rcases h2.1 with h3 | h3
    · exact hs _ h3
    · rcases hs _ h3 with h4 | h4
      · exact .inr h4
      · rw [Int.neg_neg] at h4; exact .inl h4
theorem ite_says {h : Int → Bool} {c a b : Int} (ht : h 65537 = true) (hc : okM c) (ha : okM a) (hb : okM b) : OcSays h (if litV h c = true then litV h a else litV h b) [c, a, b] (iteF c a b) := by
  have t1 : litV h 65537 = true := by unfold litV; rw [show varC 65537 = 65537 from rfl, ht]; rfl
  have t2 : litV h (-65537) = false := by unfold litV; rw [show varC (-65537) = 65537 from rfl, ht]; rfl
  have hor : (2 : Int) = 1 ∧ (-65537 : Int) = 65537 ∧ true = false ∨ (2 : Int) = 2 ∧ (-65537 : Int) = -65537 ∧ true = true := .inr ⟨rfl, rfl, rfl⟩
  have hand : (1 : Int) = 1 ∧ (65537 : Int) = 65537 ∧ false = false ∨ (1 : Int) = 2 ∧ (65537 : Int) = -65537 ∧ false = true := .inl ⟨rfl, rfl, rfl⟩
  generalize hv : (if litV h c = true then litV h a else litV h b) = v
  have one : ∀ {x : Int}, litV h x = v → x ∈ [c, a, b] → OcSays h v [c, a, b] (0, [], x) := fun h1 h2 => ⟨fun _ => ⟨h1, .inr (.inr (.inl h2))⟩, fun h0 => absurd rfl h0⟩
  have eo : ∀ x y, gateV h 2 [x, y] = (litV h x || litV h y) := fun x y => by show ([x, y].any (litV h)) = _; simp
  have ea : ∀ x y, gateV h 1 [x, y] = (litV h x && litV h y) := fun x y => by show ([x, y].all (litV h)) = _; simp
  have nc := litV_neg (h := h) hc
  unfold iteF
  split
  · rename_i h1
    exact one (by rw [← hv, h1, t1]; rfl) (by simp)
  · split
    · rename_i _ h1
      exact one (by rw [← hv, h1, t2]; rfl) (by simp)
    · split
      · rename_i h1
        exact one (by rw [← hv, h1]; cases litV h c <;> rfl) (by simp)
      · split
        · rename_i h1
          exact two_says (p := 0) (q := 0) hor (by rw [t2]; rfl) (by rw [show -(-65537 : Int) = 65537 from rfl]; exact t1) hc hb (by rw [← hv, eo, h1, t1]; cases litV h c <;> cases litV h b <;> rfl) (by simp) (fun x hx => by
            simp only [List.mem_cons, List.not_mem_nil, or_false] at hx ⊢
            rcases hx with rfl | rfl <;> simp)
        · split
          · rename_i h1
            exact two_says (p := 0) (q := 0) hand (by rw [t1]; rfl) t2 (okM_neg hc) hb (by rw [← hv, ea, nc, h1, t2]; cases litV h c <;> cases litV h b <;> rfl) (by simp) (fun x hx => by
              simp only [List.mem_cons, List.not_mem_nil, or_false] at hx ⊢
              rcases hx with rfl | rfl <;> simp)
          · split
            · rename_i h1
              exact two_says (p := 0) (q := 0) hor (by rw [t2]; rfl) (by rw [show -(-65537 : Int) = 65537 from rfl]; exact t1) (okM_neg hc) ha (by rw [← hv, eo, nc, h1, t1]; cases litV h c <;> cases litV h a <;> rfl) (by simp) (fun x hx => by
                simp only [List.mem_cons, List.not_mem_nil, or_false] at hx ⊢
                rcases hx with rfl | rfl <;> simp)
            · split
              · rename_i h1
                exact two_says (p := 0) (q := 0) hand (by rw [t1]; rfl) t2 hc ha (by rw [← hv, ea, h1, t2]; cases litV h c <;> cases litV h a <;> rfl) (by simp) (fun x hx => by
                  simp only [List.mem_cons, List.not_mem_nil, or_false] at hx ⊢
                  rcases hx with rfl | rfl <;> simp)
              · refine ⟨fun h0 => by simp at h0, fun _ => ⟨hv, rfl, by simp, fun x hx => ?_⟩⟩
                simp only [List.mem_cons, List.not_mem_nil, or_false] at hx
                rcases hx with rfl | rfl | rfl
                · exact ⟨.inl (by simp), by omega, by omega⟩
                · exact ⟨.inl (by simp), by omega, by omega⟩
                · exact ⟨.inl (by simp), by omega, by omega⟩
theorem outcome_says {h : Int → Bool} {k : Int} {l : List Int} (ht : h 65537 = true) (hf : fitsB k l.length = true) (hl : ∀ x ∈ l, okM x) : OcSays h (gateV h k l) l (outcomeF k l) := by
  have t1 : litV h 65537 = true := by unfold litV; rw [show varC 65537 = 65537 from rfl, ht]; rfl
  have t2 : litV h (-65537) = false := by unfold litV; rw [show varC (-65537) = 65537 from rfl, ht]; rfl
  rcases fits_kind hf with rfl | rfl | ⟨rfl, hn⟩ | ⟨rfl, hn⟩
  · exact merged_says (.inl ⟨rfl, rfl, rfl⟩) (by rw [t1]; rfl) t2 hl
  · exact merged_says (.inr ⟨rfl, rfl, rfl⟩) (by rw [t2]; rfl) (by rw [show -(-65537 : Int) = 65537 from rfl]; exact t1) hl
  · match l, hn with
    | [a, b], _ => exact xor_says ht (hl a (by simp)) (hl b (by simp))
  · match l, hn with
    | [c, a, b], _ => exact ite_says ht (hl c (by simp)) (hl a (by simp)) (hl b (by simp))
end Go.Proofs.Ytafenijbglcppaa

/- Simpler nets have the values of the nets (no program). -/
namespace Go.Proofs.Ytafenijbglcppaa
open Go.RowKit Go.Maps
set_option linter.unusedVariables false
set_option linter.unusedSimpArgs false

theorem namedL_snoc : ∀ (gs : List Gt) (S : List Int) (t : Nat) (R : List Int) (g : Gt), namedL S t gs = some R → gOk R (t + sizeG gs) g = true → namedL S t (gs ++ [g]) = some (R ++ [g.1])
  | [], S, t, R, g, h, hg => by
    unfold namedL at h
    injection h with h
    subst h
    have e : sizeG [] = 0 := rfl
    rw [e, Nat.add_zero] at hg
    show namedL S t [g] = _
    unfold namedL
    rw [if_pos hg]
    rfl
  | x :: r, S, t, R, g, h, hg => by
    unfold namedL at h
    split at h
    · rename_i hx
      have e : sizeG (x :: r) = x.2.2.length + sizeG r := by unfold sizeG; simp
      rw [e, ← Nat.add_assoc] at hg
      show namedL S t (x :: (r ++ [g])) = _
      unfold namedL
      rw [if_pos hx]
      exact namedL_snoc r _ _ R g h hg
    · cases h
theorem sizeG_snoc (gs : List Gt) (g : Gt) : sizeG (gs ++ [g]) = sizeG gs + g.2.2.length := by unfold sizeG; simp
theorem varC_at {x : Int} (h : 1 ≤ x) : varC x = x := by unfold varC; rw [if_neg (by omega)]
theorem litV_pos {h : Int → Bool} {x : Int} (hx : 1 ≤ x) : litV h x = h x := by
  unfold litV
  rw [varC_at hx, show decide (0 < x) = true by simp; omega]
  cases h x <;> rfl
theorem litV_var {h : Int → Bool} {x : Int} (hx : 1 ≤ varC x ∧ varC x ≤ 65536) : litV h x = if x < 0 then !h (varC x) else h (varC x) := by
  unfold litV
  by_cases h0 : x < 0
  · rw [if_pos h0, show decide (0 < x) = false by simp; omega]
    cases h (varC x) <;> rfl
  · have h1 : varC x = x := by unfold varC; rw [if_neg h0]
    rw [if_neg h0, show decide (0 < x) = true by simp; omega]
    cases h (varC x) <;> rfl
/-- The image of a literal, from that of its variable. -/
theorem image_lit {f : Int → Option Int} {x : Int} (hx : 1 ≤ varC x ∧ varC x ≤ 65536) : imageF f x = if x < 0 then -(imageF f (varC x)) else imageF f (varC x) := by
  have e : varC (varC x) = varC x := varC_at hx.1
  by_cases h0 : x < 0
  · rw [if_pos h0]
    unfold imageF
    rw [e]
    cases hf : f (varC x) with
    | none =>
      simp only
      unfold varC at hx ⊢
      rw [if_pos h0] at hx ⊢
      by_cases h2 : x = -9223372036854775808
      · rw [if_pos h2] at hx; omega
      · rw [if_neg h2]; omega
    | some y =>
      simp only
      rw [if_pos h0, if_neg (by omega)]
  · have h1 : varC x = x := by unfold varC; rw [if_neg h0]
    rw [if_neg h0, h1]
theorem gateV_map {h h' : Int → Bool} {F : Int → Int} {k : Int} {l : List Int} (e : ∀ x ∈ l, litV h x = litV h' (F x)) (hf : fitsB k l.length = true) : gateV h k l = gateV h' k (l.map F) := by
  have hc : ∀ (l : List Int), (∀ x ∈ l, litV h x = litV h' (F x)) → l.all (litV h) = (l.map F).all (litV h') ∧ l.any (litV h) = (l.map F).any (litV h') := fun l => by
    induction l with
    | nil => exact fun _ => ⟨rfl, rfl⟩
    | cons x r ih =>
      intro he
      have h1 := ih (fun y hy => he y (List.mem_cons_of_mem _ hy))
      simp only [List.all_cons, List.any_cons, List.map_cons, h1.1, h1.2, he x (List.mem_cons_self ..), and_self]
  have hg : ∀ j, j < l.length → litV h (l.getD j 0) = litV h' ((l.map F).getD j 0) := fun j hj => by
    have h1 := e (l.getD j 0) (by simp [List.getD, hj])
    rw [h1]
    simp [List.getD, hj]
  rcases fits_kind hf with rfl | rfl | ⟨rfl, hn⟩ | ⟨rfl, hn⟩
  · have e1 : ∀ f m, gateV f 1 m = m.all (litV f) := fun f m => rfl
    rw [e1, e1, (hc l e).1]
  · have e1 : ∀ f m, gateV f 2 m = m.any (litV f) := fun f m => rfl
    rw [e1, e1, (hc l e).2]
  · have e1 : ∀ f m, gateV f 3 m = (litV f (m.getD 0 0) != litV f (m.getD 1 0)) := fun f m => rfl
    rw [e1, e1, hg 0 (by omega), hg 1 (by omega)]
  · have e1 : ∀ f m, gateV f 4 m = if litV f (m.getD 0 0) = true then litV f (m.getD 1 0) else litV f (m.getD 2 0) := fun f m => rfl
    rw [e1, e1, hg 0 (by omega), hg 1 (by omega), hg 2 (by omega)]

/-- What holds between a net and what has become of it, some gates in. -/
structure SimI (S0 : List Int) (H0 : Int → Bool) (t : Nat) (S : List Int) (f : Int → Option Int) (st : List Gt) (Ho : Int → Bool) : Prop where
  img : ∀ i ∈ S, okM (imageF f i) ∧ (varC (imageF f i) = 65537 ∨ varC (imageF f i) ∈ S0 ++ st.map (fun g => g.1)) ∧ litV (st.foldl gStep (H0, [])).1 (imageF f i) = Ho i
  sub : ∀ i ∈ S0 ++ st.map (fun g => g.1), i ∈ S
  dom : ∀ k y, f k = some y → k ∈ S
  vars : ∀ i ∈ S, 1 ≤ i ∧ i ≤ 65536
  size : sizeG st ≤ t
  named : namedL S0 0 st = some (S0 ++ st.map (fun g => g.1))
  top : (st.foldl gStep (H0, [])).1 65537 = true
theorem okM_var {x : Int} (h : okM x) : 1 ≤ varC x ∧ varC x ≤ 65537 ∧ (varC x = 65537 ↔ (x = 65537 ∨ x = -65537)) := by
  unfold okM at h
  unfold varC
  split
  · rw [if_neg (by omega)]; omega
  · omega
theorem SimI.lit {S0 : List Int} {H0 : Int → Bool} {t : Nat} {S : List Int} {f : Int → Option Int} {st : List Gt} {Ho : Int → Bool} (H : SimI S0 H0 t S f st Ho) {x : Int} (hx : varC x ∈ S) :
    okM (imageF f x) ∧ (varC (imageF f x) = 65537 ∨ varC (imageF f x) ∈ S0 ++ st.map (fun g => g.1)) ∧ litV (st.foldl gStep (H0, [])).1 (imageF f x) = litV Ho x := by
  have hv := H.vars _ hx
  obtain ⟨h1, h2, h3⟩ := H.img _ hx
  rw [image_lit hv, litV_var hv]
  by_cases h0 : x < 0
  · rw [if_pos h0, if_pos h0]
    refine ⟨okM_neg h1, ?_, ?_⟩
    · rw [varC_neg (by unfold okM at h1; omega)]; exact h2
    · rw [litV_neg h1, h3]
  · rw [if_neg h0, if_neg h0]
    exact ⟨h1, h2, h3⟩
theorem gStep_snoc (st : List Gt) (g : Gt) (s : (Int → Bool) × List Bool) : ((st ++ [g]).foldl gStep s).1 = updB (st.foldl gStep s).1 g.1 (gateV (st.foldl gStep s).1 g.2.1 g.2.2) := by rw [List.foldl_append]; rfl
theorem sim_step {S0 : List Int} {H0 : Int → Bool} {t : Nat} {S : List Int} {f : Int → Option Int} {st : List Gt} {Ho : Int → Bool} (H : SimI S0 H0 t S f st Ho) {g : Gt} (hg : gOk S t g = true) :
    SimI S0 H0 (t + g.2.2.length) (S ++ [g.1]) (simStep (f, st) g).1 (simStep (f, st) g).2 (updB Ho g.1 (gateV Ho g.2.1 g.2.2)) := by
  have hp := gOk_parts hg
  have he := hp.2.2.2
  unfold entB at he
  simp only [decide_eq_true_eq] at he
  have hl : ∀ x ∈ g.2.2, _ := fun x hx => H.lit (hp.2.2.1 x hx)
  have hgv : gateV Ho g.2.1 g.2.2 = gateV (st.foldl gStep (H0, [])).1 g.2.1 (g.2.2.map (imageF f)) := gateV_map (fun x hx => (hl x hx).2.2.symm) hp.2.1
  have hos := outcome_says (h := (st.foldl gStep (H0, [])).1) (k := g.2.1) (l := g.2.2.map (imageF f)) H.top (by rw [List.length_map]; exact hp.2.1) (fun y hy => by
    obtain ⟨x, hx, rfl⟩ := List.mem_map.1 hy
    exact (hl x hx).1)
  rw [← hgv] at hos
  have hml : ∀ y, (y ∈ g.2.2.map (imageF f) ∨ -y ∈ g.2.2.map (imageF f)) → okM y ∧ (varC y = 65537 ∨ varC y ∈ S0 ++ st.map (fun g => g.1)) := fun y hy => by
    rcases hy with hy | hy
    · obtain ⟨x, hx, e⟩ := List.mem_map.1 hy
      rw [← e]
      exact ⟨(hl x hx).1, (hl x hx).2.1⟩
    · obtain ⟨x, hx, e⟩ := List.mem_map.1 hy
      have h1 := (hl x hx).1
      have h2 := (hl x hx).2.1
      rw [e] at h1 h2
      have h3 : okM y := by have := okM_neg h1; rwa [Int.neg_neg] at this
      rw [varC_neg (by unfold okM at h3; omega)] at h2
      exact ⟨h3, h2⟩
  have hvr : ∀ i ∈ S ++ [g.1], 1 ≤ i ∧ i ≤ 65536 := fun i hi => by
    rcases List.mem_append.1 hi with h1 | h1
    · exact H.vars i h1
    · rw [List.mem_singleton] at h1; rw [h1]; exact ⟨he.1, he.2.1⟩
  unfold simStep
  generalize outcomeF g.2.1 (g.2.2.map (imageF f)) = oc at *
  simp only
  by_cases h0 : oc.1 = 0
  · rw [if_pos h0]
    obtain ⟨hv, hy⟩ := hos.gone h0
    have hok : okM oc.2.2 ∧ (varC oc.2.2 = 65537 ∨ varC oc.2.2 ∈ S0 ++ st.map (fun g => g.1)) := by
      rcases hy with hy | hy | hy
      · rw [hy]; exact ⟨by unfold okM; omega, .inl rfl⟩
      · rw [hy]; exact ⟨by unfold okM; omega, .inl rfl⟩
      · exact hml _ hy
    refine ⟨fun i hi => ?_, fun i hi => List.mem_append_left _ (H.sub i hi), fun k y hk => ?_, hvr, (by have := H.size; show sizeG st ≤ _; omega), H.named, H.top⟩
    · have hi1 := hvr i hi
      have hvi : varC i = i := varC_at hi1.1
      by_cases hig : i = g.1
      · have e1 : imageF (updM f g.1 oc.2.2) i = oc.2.2 := by
          unfold imageF updM
          rw [hvi, if_pos hig]
          simp only
          rw [if_neg (by omega)]
        rw [e1]
        refine ⟨hok.1, hok.2, ?_⟩
        unfold updB
        rw [if_pos hig, hv]
      · have hiS : i ∈ S := by
          rcases List.mem_append.1 hi with h1 | h1
          · exact h1
          · rw [List.mem_singleton] at h1; exact absurd h1 hig
        have e1 : imageF (updM f g.1 oc.2.2) i = imageF f i := by
          unfold imageF updM
          rw [hvi, if_neg hig]
        rw [e1]
        unfold updB
        rw [if_neg hig]
        exact H.img i hiS
    · have hk : updM f g.1 oc.2.2 k = some y := hk
      unfold updM at hk
      split at hk
      · rename_i e; rw [e]; simp
      · exact List.mem_append_left _ (H.dom k y hk)
  · rw [if_neg h0]
    obtain ⟨hv, hft, hln, hys⟩ := hos.stays h0
    have hnm : S0 ++ (st ++ [(g.1, oc.1, oc.2.1)]).map (fun g => g.1) = (S0 ++ st.map (fun g => g.1)) ++ [g.1] := by simp
    have hgn : g.1 ∉ S0 ++ st.map (fun g => g.1) := fun h => he.2.2 (H.sub _ h)
    have hfn : f g.1 = none := by
      cases hf : f g.1 with
      | none => rfl
      | some y => exact absurd (H.dom _ _ hf) he.2.2
    have hrun : ((st ++ [(g.1, oc.1, oc.2.1)]).foldl gStep (H0, [])).1 = updB (st.foldl gStep (H0, [])).1 g.1 (gateV Ho g.2.1 g.2.2) := by
      rw [gStep_snoc]
      simp only
      rw [hv]
    rw [List.length_map] at hln
    refine ⟨fun i hi => ?_, fun i hi => ?_, fun k y hk => List.mem_append_left _ (H.dom k y hk), hvr, ?_, ?_, ?_⟩
    · have hi1 := hvr i hi
      have hvi : varC i = i := varC_at hi1.1
      rw [hnm, hrun]
      by_cases hig : i = g.1
      · have e1 : imageF f i = i := by unfold imageF; rw [hvi, hig, hfn]
        rw [e1]
        refine ⟨by unfold okM; omega, .inr (by rw [hvi, hig]; simp), ?_⟩
        rw [litV_pos hi1.1]
        unfold updB
        rw [if_pos hig, if_pos hig]
      · have hiS : i ∈ S := by
          rcases List.mem_append.1 hi with h1 | h1
          · exact h1
          · rw [List.mem_singleton] at h1; exact absurd h1 hig
        obtain ⟨h1, h2, h3⟩ := H.img i hiS
        refine ⟨h1, ?_, ?_⟩
        · rcases h2 with h2 | h2
          · exact .inl h2
          · exact .inr (List.mem_append_left _ h2)
        · have hne : varC (imageF f i) ≠ g.1 := by
            rcases h2 with h2 | h2
            · omega
            · exact fun e => hgn (e ▸ h2)
          have e1 : litV (updB (st.foldl gStep (H0, [])).1 g.1 (gateV Ho g.2.1 g.2.2)) (imageF f i) = litV (st.foldl gStep (H0, [])).1 (imageF f i) := by
            unfold litV updB
            rw [if_neg hne]
          rw [e1, h3]
          unfold updB
          rw [if_neg hig]
    · rw [hnm] at hi
      rcases List.mem_append.1 hi with h1 | h1
      · exact List.mem_append_left _ (H.sub i h1)
      · exact List.mem_append_right _ h1
    · rw [sizeG_snoc]
      have := H.size
      simp only
      omega
    · rw [hnm]
      refine namedL_snoc st S0 0 _ (g.1, oc.1, oc.2.1) H.named ?_
      unfold gOk entB
      simp only [Bool.and_eq_true, decide_eq_true_eq, List.all_eq_true]
      have := H.size
      refine ⟨by omega, hft, fun x hx => ?_, he.1, he.2.1, hgn⟩
      have h1 := hml x (hys x hx).1
      have h2 := (hys x hx).2
      rcases h1.2 with h3 | h3
      · have := (okM_var h1.1).2.2.1 h3; omega
      · exact h3
    · rw [hrun]
      unfold updB
      rw [if_neg (by omega)]
      exact H.top
theorem sim_run {S0 : List Int} {H0 : Int → Bool} : ∀ (gs : List Gt) (t : Nat) (S R : List Int) (f : Int → Option Int) (st : List Gt) (Ho : Int → Bool) (acc : List Bool), namedL S t gs = some R → SimI S0 H0 t S f st Ho →
    ∃ t', SimI S0 H0 t' R (gs.foldl simStep (f, st)).1 (gs.foldl simStep (f, st)).2 (gs.foldl gStep (Ho, acc)).1
  | [], t, S, R, f, st, Ho, acc, hn, H => by
    unfold namedL at hn
    injection hn with hn
    subst hn
    exact ⟨t, H⟩
  | g :: r, t, S, R, f, st, Ho, acc, hn, H => by
    unfold namedL at hn
    split at hn
    · rename_i hg
      exact sim_run r _ _ R _ _ _ _ hn (sim_step H hg)
    · cases hn
theorem fixM_first : ∀ (l : List Int) (f : Int → Option Int) (i : Int), ascV l → (l.foldl (fun f x => updM f (varC x) (if 0 < x then 65537 else -65537)) f) i = ((firstL l i).map (fun s => if s = true then (65537 : Int) else -65537)).orElse (fun _ => f i)
  | [], f, i, _ => by simp [firstL]
  | x :: r, f, i, ha => by
    unfold ascV at ha
    rw [List.pairwise_cons] at ha
    rw [List.foldl_cons, fixM_first r _ i ha.2]
    unfold updM
    by_cases hi : varC x = i
    · rw [first_none (fun z hz => by have := ha.1 z hz; omega)]
      unfold firstL
      rw [if_pos hi, if_pos hi.symm]
      by_cases hx : 0 < x
      · simp [hx]
      · simp [hx]
    · conv => rhs; unfold firstL
      rw [if_neg hi, if_neg (fun e => hi e.symm)]
theorem namedL_fresh : ∀ (gs : List Gt) (S : List Int) (t : Nat) (R : List Int), namedL S t gs = some R → ∀ g ∈ gs, g.1 ∉ S
  | [], S, t, R, h, g, hg => by cases hg
  | x :: r, S, t, R, h, g, hg => by
    unfold namedL at h
    split at h
    · rename_i hx
      have hp := gOk_parts hx
      have he := hp.2.2.2
      unfold entB at he
      simp only [decide_eq_true_eq] at he
      rcases List.mem_cons.1 hg with h1 | h1
      · rw [h1]; exact he.2.2
      · exact fun hs => namedL_fresh r _ _ R h g h1 (List.mem_append_left _ hs)
    · cases h
theorem reach_closed : ∀ (gs : List Gt) (S : List Int) (t : Nat) (R T : List Int), namedL S t gs = some R → (∀ y ∈ S, 1 ≤ y ∧ y ≤ 65536) → ∀ g ∈ gs, g.1 ∈ reachR gs T → ∀ y ∈ g.2.2, varC y ∈ reachR gs T
  | [], S, t, R, T, h, hS, g, hg => by cases hg
  | x :: r, S, t, R, T, h, hS, g, hg => by
    have hlit := namedL_lits _ _ _ _ h hS x (List.mem_cons_self ..)
    unfold namedL at h
    split at h
    · rename_i hx
      have hp := gOk_parts hx
      have he := hp.2.2.2
      unfold entB at he
      simp only [decide_eq_true_eq] at he
      have hS' : ∀ y ∈ S ++ [x.1], 1 ≤ y ∧ y ≤ 65536 := fun y hy => by
        rcases List.mem_append.1 hy with h1 | h1
        · exact hS y h1
        · rw [List.mem_singleton] at h1; rw [h1]; exact ⟨he.1, he.2.1⟩
      rw [reachR_cons]
      intro hgr y hy
      rw [reachG_mem hlit] at hgr ⊢
      rcases List.mem_cons.1 hg with h1 | h1
      · subst h1
        rcases hgr with h2 | ⟨h2, z, hz, h3⟩
        · exact .inr ⟨h2, y, hy, rfl⟩
        · exact .inr ⟨h2, y, hy, rfl⟩
      · rcases hgr with h2 | ⟨_, z, hz, h3⟩
        · exact .inl (reach_closed r _ _ R T h hS' g h1 h2 y hy)
        · exact absurd (List.mem_append_left _ (h3 ▸ hp.2.2.1 z hz)) (namedL_fresh r _ _ R h g h1)
    · cases h
theorem named_filter (C : Int → Bool) : ∀ (gs : List Gt) (S S1 : List Int) (t t1 : Nat) (R : List Int), namedL S t gs = some R → (∀ g ∈ gs, C g.1 = true → ∀ y ∈ g.2.2, C (varC y) = true) → (∀ i ∈ S1, i ∈ S) → (∀ i ∈ S, C i = true → i ∈ S1) → t1 ≤ t →
    ∃ R1, namedL S1 t1 (gs.filter (fun g => C g.1)) = some R1 ∧ (∀ i ∈ R1, i ∈ R) ∧ ∀ i ∈ R, C i = true → i ∈ R1
  | [], S, S1, t, t1, R, h, hC, h1, h2, ht => by
    unfold namedL at h
    injection h with h
    subst h
    exact ⟨S1, rfl, h1, h2⟩
  | g :: r, S, S1, t, t1, R, h, hC, h1, h2, ht => by
    unfold namedL at h
    split at h
    · rename_i hg
      have hp := gOk_parts hg
      have he := hp.2.2.2
      unfold entB at he
      simp only [decide_eq_true_eq] at he
      have hC' := fun x hx => hC x (List.mem_cons_of_mem g hx)
      by_cases hc : C g.1 = true
      · have ef : (g :: r).filter (fun g => C g.1) = g :: r.filter (fun g => C g.1) := by rw [List.filter_cons, if_pos hc]
        rw [ef]
        have hg1 : gOk S1 t1 g = true := by
          unfold gOk entB
          simp only [Bool.and_eq_true, decide_eq_true_eq, List.all_eq_true]
          exact ⟨by have := hp.1; omega, hp.2.1, fun y hy => h2 _ (hp.2.2.1 y hy) (hC g (List.mem_cons_self ..) hc y hy), he.1, he.2.1, fun h => he.2.2 (h1 _ h)⟩
        have ih := named_filter C r (S ++ [g.1]) (S1 ++ [g.1]) _ (t1 + g.2.2.length) R h hC' (fun i hi => by
          rcases List.mem_append.1 hi with h3 | h3
          · exact List.mem_append_left _ (h1 i h3)
          · exact List.mem_append_right _ h3) (fun i hi hci => by
          rcases List.mem_append.1 hi with h3 | h3
          · exact List.mem_append_left _ (h2 i h3 hci)
          · exact List.mem_append_right _ h3) (by omega)
        obtain ⟨R1, h3, h4⟩ := ih
        refine ⟨R1, ?_, h4⟩
        unfold namedL
        rw [if_pos hg1]
        exact h3
      · have ef : (g :: r).filter (fun g => C g.1) = r.filter (fun g => C g.1) := by rw [List.filter_cons, if_neg hc]
        rw [ef]
        exact named_filter C r (S ++ [g.1]) S1 _ t1 R h hC' (fun i hi => List.mem_append_left _ (h1 i hi)) (fun i hi hci => by
          rcases List.mem_append.1 hi with h3 | h3
          · exact h2 i h3 hci
          · rw [List.mem_singleton] at h3; rw [h3] at hci; exact absurd hci hc) (by omega)
    · cases h
theorem used_same (C : Int → Bool) : ∀ (gs : List Gt) (h h' : Int → Bool) (acc acc' : List Bool), (∀ g ∈ gs, fitsB g.2.1 g.2.2.length = true) → (∀ g ∈ gs, C g.1 = true → ∀ y ∈ g.2.2, C (varC y) = true) → (∀ i, C i = true → h i = h' i) →
    ∀ i, C i = true → (gs.foldl gStep (h, acc)).1 i = ((gs.filter (fun g => C g.1)).foldl gStep (h', acc')).1 i
  | [], h, h', acc, acc', hf, hC, e, i, hi => e i hi
  | g :: r, h, h', acc, acc', hf, hC, e, i, hi => by
    have hf' := fun x hx => hf x (List.mem_cons_of_mem g hx)
    have hC' := fun x hx => hC x (List.mem_cons_of_mem g hx)
    rw [List.foldl_cons]
    by_cases hc : C g.1 = true
    · have ef : (g :: r).filter (fun g => C g.1) = g :: r.filter (fun g => C g.1) := by rw [List.filter_cons, if_pos hc]
      rw [ef, List.foldl_cons]
      unfold gStep
      simp only
      refine used_same C r _ _ _ _ hf' hC' (fun j hj => ?_) i hi
      unfold updB
      by_cases hjg : j = g.1
      · rw [if_pos hjg, if_pos hjg]
        exact gateV_congr (fun x hx => e _ (hC g (List.mem_cons_self ..) hc x hx)) (hf g (List.mem_cons_self ..))
      · rw [if_neg hjg, if_neg hjg]; exact e j hj
    · have ef : (g :: r).filter (fun g => C g.1) = r.filter (fun g => C g.1) := by rw [List.filter_cons, if_neg hc]
      rw [ef]
      unfold gStep
      simp only
      refine used_same C r _ _ _ _ hf' hC' (fun j hj => ?_) i hi
      unfold updB
      rw [if_neg (show ¬ j = g.1 from fun ej => hc (by rw [← ej]; exact hj))]
      exact e j hj
theorem first_some {l : List Int} {i : Int} {s : Bool} (h : firstL l i = some s) : ∃ x ∈ l, varC x = i ∧ s = decide (0 < x) := by
  induction l with
  | nil => cases h
  | cons x r ih =>
    unfold firstL at h
    split at h
    · rename_i e
      injection h with h
      exact ⟨x, List.mem_cons_self .., e, h.symm⟩
    · obtain ⟨y, hy, e⟩ := ih h
      exact ⟨y, List.mem_cons_of_mem _ hy, e⟩
theorem sim_init {P : List Blk} (hP : ∀ y ∈ flatB P, 1 ≤ y ∧ y ≤ 65536) {fix : List Int} (hfa : ascV fix) (hfp : ∀ x ∈ fix, varC x ∈ flatB P) (a : List Int) :
    SimI (flatB (withoutP P (fixM fix))) (updB (setA (fun _ => false) a) 65537 true) 0 (flatB P) (fixM fix) [] (fun i => ((firstL fix i).orElse (fun _ => some (setA (fun _ => false) a i))).getD false) := by
  have hfl : flatB (withoutP P (fixM fix)) = (flatB P).filter (fun v => (fixM fix v).isNone) := without_flat P _
  have hfx : ∀ i, fixM fix i = (firstL fix i).map (fun s => if s = true then (65537 : Int) else -65537) := fun i => by
    have := fixM_first fix (fun _ => none) i hfa
    unfold fixM
    rw [this]
    cases firstL fix i <;> rfl
  rw [hfl]
  refine ⟨fun i hi => ?_, fun i hi => ?_, fun k y hk => ?_, hP, Nat.le_refl _, ?_, ?_⟩
  · have hi1 := hP i hi
    have hvi : varC i = i := varC_at hi1.1
    unfold imageF
    rw [hvi, hfx i]
    cases hs : firstL fix i with
    | none =>
      refine ⟨?_, .inr ?_, ?_⟩
      · show okM i
        unfold okM; omega
      · show varC i ∈ _
        rw [hvi, List.map_nil, List.append_nil]
        exact List.mem_filter.2 ⟨hi, by rw [hfx i, hs]; rfl⟩
      · show litV (updB (setA (fun _ => false) a) 65537 true) i = _
        rw [litV_pos hi1.1]
        unfold updB
        rw [if_neg (show ¬ i = 65537 by omega)]
        rfl
    | some s =>
      simp only [Option.map_some]
      rw [if_neg (by omega)]
      cases s
      · refine ⟨by unfold okM; simp, .inl (by simp [varC]), ?_⟩
        show litV (updB (setA (fun _ => false) a) 65537 true) (-65537) = _
        unfold litV updB
        simp [varC]
      · refine ⟨by unfold okM; simp, .inl (by simp [varC]), ?_⟩
        show litV (updB (setA (fun _ => false) a) 65537 true) 65537 = _
        unfold litV updB
        simp [varC]
  · rw [List.map_nil, List.append_nil] at hi
    exact (List.mem_filter.1 hi).1
  · rw [hfx k] at hk
    cases hs : firstL fix k with
    | none => rw [hs] at hk; cases hk
    | some s =>
      obtain ⟨x, hx, e, _⟩ := first_some hs
      rw [← e]
      exact hfp x hx
  · rw [List.map_nil, List.append_nil]; rfl
  · show updB (setA (fun _ => false) a) 65537 true 65537 = true
    unfold updB
    rw [if_pos rfl]
theorem unused_flat {P : List Blk} (h : mayP P = true) : ∃ x, (unusedL (flatB P) 1).getD 0 0 = x ∧ 1 ≤ x ∧ x ≤ 65536 ∧ x ∉ flatB P := by
  obtain ⟨x, e, h1⟩ := unused_one (S := flatB P) (mayP_short h).1
  exact ⟨x, by rw [e]; rfl, h1⟩
theorem const_means {P : List Blk} (h : mayP P = true) (v : Bool) (a : List Int) : mayN (constN P v).1 (constN P v).2.1 (constN P v).2.2 = true ∧ litV (runA (constN P v).2.1 a).1 (constN P v).2.2 = v := by
  obtain ⟨x, e, h1, h2, h3⟩ := unused_flat h
  unfold constN
  rw [e]
  simp only
  have hg : gOk (flatB P) 0 (x, 1, []) = true := by
    unfold gOk entB
    simp only [Bool.and_eq_true, decide_eq_true_eq, List.all_eq_true]
    exact ⟨by simp, by decide, by simp, h1, h2, h3⟩
  have hn : namedN P [(x, 1, [])] = some (flatB P ++ [x]) := by
    unfold namedN
    rw [if_pos h]
    unfold namedL
    rw [if_pos hg]
    rfl
  have hv1 : varC x = x := varC_at h1
  have hv2 : varC (-x) = x := by rw [varC_neg (by omega), hv1]
  have hr : (runA [(x, 1, [])] a).1 x = true := by
    show updB (setA (fun _ => false) a) x true x = true
    unfold updB
    rw [if_pos rfl]
  cases v
  · rw [if_neg (by simp)]
    refine ⟨mayN_of hn (by rw [hv2]; simp), ?_⟩
    unfold litV
    rw [hv2, hr, show decide (0 < -x) = false by simp; omega]
    rfl
  · rw [if_pos rfl]
    refine ⟨mayN_of hn (by rw [hv1]; simp), ?_⟩
    unfold litV
    rw [hv1, hr, show decide (0 < x) = true by simp; omega]
    rfl
/-- A net made simpler, with some variables fixed: it is valid, and has the value of the net with them added. -/
theorem simp_means {P : List Blk} {gs : List Gt} {o : Int} {fix : List Int} (h : mayN P gs o = true) (hfa : ascV fix) (hfp : ∀ x ∈ fix, varC x ∈ flatB P) (a b : List Int) (hb : ∀ i, setA (fun _ => false) b i = ((firstL fix i).orElse (fun _ => some (setA (fun _ => false) a i))).getD false) :
    mayN (simpN P gs o fix).1 (simpN P gs o fix).2.1 (simpN P gs o fix).2.2 = true ∧ litV (runA (simpN P gs o fix).2.1 a).1 (simpN P gs o fix).2.2 = litV (runA gs b).1 o := by
  obtain ⟨R, hp, _, hn, ho, hP⟩ := mayN_named h
  have hmp := mayP_without hp (fixM fix)
  obtain ⟨t', HI⟩ := sim_run gs 0 (flatB P) R (fixM fix) [] _ [] hn (sim_init hP hfa hfp a)
  have hbf : (fun i => ((firstL fix i).orElse (fun _ => some (setA (fun _ => false) a i))).getD false) = setA (fun _ => false) b := by funext i; exact (hb i).symm
  rw [hbf] at HI
  have hI := HI.lit ho
  have hrb : litV (gs.foldl gStep (setA (fun _ => false) b, [])).1 o = litV (runA gs b).1 o := rfl
  rw [hrb] at hI
  have hsr : gs.foldl simStep (fixM fix, []) = simRun (fixM fix) gs := rfl
  rw [hsr] at HI hI
  unfold simpN
  generalize simRun (fixM fix) gs = sr at *
  obtain ⟨f, st⟩ := sr
  simp only at HI hI ⊢
  generalize imageF f o = y at *
  generalize litV (runA gs b).1 o = r at *
  by_cases hc : varC y = 65537
  · rw [if_pos hc]
    have h1 := const_means hmp (decide (y = 65537)) a
    refine ⟨h1.1, ?_⟩
    rw [h1.2, ← hI.2.2]
    have h2 := (okM_var hI.1).2.2.1 hc
    have ht := HI.top
    unfold litV
    rw [hc, ht]
    rcases h2 with h2 | h2
    · rw [h2]; rfl
    · rw [h2]; rfl
  · rw [if_neg hc]
    simp only
    have hyn : varC y ∈ flatB (withoutP P (fixM fix)) ++ st.map (fun g => g.1) := by
      rcases hI.2.1 with h1 | h1
      · exact absurd h1 hc
      · exact h1
    have hS0 : ∀ y ∈ flatB (withoutP P (fixM fix)), 1 ≤ y ∧ y ≤ 65536 := (mayP_parts hmp).2.2.1
    have hyv := HI.vars _ (HI.sub _ hyn)
    have hrl : reachL st y = reachR st (tellL [] y) := reachL_R st y
    have hcl : ∀ g ∈ st, decide (g.1 ∈ reachL st y) = true → ∀ z ∈ g.2.2, decide (varC z ∈ reachL st y) = true := fun g hg hgr z hz => by
      rw [hrl] at hgr ⊢
      simp only [decide_eq_true_eq] at hgr ⊢
      exact reach_closed st _ _ _ _ HI.named hS0 g hg hgr z hz
    have hyC : decide (varC y ∈ reachL st y) = true := by
      rw [hrl]
      simp only [decide_eq_true_eq]
      have hsub : ∀ (l : List Gt) (S : List Int) (i : Int), i ∈ S → i ∈ reachR l S := fun l => by
        induction l with
        | nil => exact fun S i hi => hi
        | cons g r ih =>
          intro S i hi
          rw [reachR_cons]
          exact (reachG_mono _ _).subset (ih S i hi)
      exact hsub _ _ _ ((tell_mem hyv).2 (.inr rfl))
    obtain ⟨R1, h1, h2, h3⟩ := named_filter (fun v => decide (v ∈ reachL st y)) st _ _ 0 0 _ HI.named hcl (fun i hi => hi) (fun i hi _ => hi) (Nat.le_refl _)
    have hnu : namedN (withoutP P (fixM fix)) (usedG st y) = some R1 := by unfold namedN; rw [if_pos hmp]; exact h1
    refine ⟨mayN_of hnu (h3 _ hyn hyC), ?_⟩
    rw [← hI.2.2]
    refine litV_congr ?_
    have hfit := namedL_fits st _ _ _ HI.named
    have hvs : ∀ i, decide (i ∈ reachL st y) = true → i ≤ 65536 := fun i hi => by
      have := (vset_up st y st.length).2 i (of_decide_eq_true hi)
      exact this.2
    exact (used_same (fun v => decide (v ∈ reachL st y)) st (updB (setA (fun _ => false) a) 65537 true) (setA (fun _ => false) a) [] [] hfit hcl (fun i hi => by
      have := hvs i hi
      unfold updB
      rw [if_neg (by omega)]) _ hyC).symm
end Go.Proofs.Ytafenijbglcppaa
