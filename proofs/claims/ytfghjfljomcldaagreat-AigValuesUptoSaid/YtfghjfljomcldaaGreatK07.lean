/- Joined texts: CxClo, CxEvs. -/
import Derived.Test.YtfghjfljomcldaaGreatK06
import Derived.Laws.EntriesVeiled
/- circ: the closures by which gates are evaluated. -/
namespace Go.Proofs.YtfghjfljomcldaaGreat
open Go.RowKit
set_option linter.unusedVariables false
set_option linter.unusedSimpArgs false

/-- Block b is a map from integers to bools that says h. -/
abbrev MapH (w : World) (b n : Nat) (h : Int → Bool) : Prop := MapB Tryz.prog 3 4 w b n h
set_option maxRecDepth 100000 in
theorem MapH.look1 {w : World} {b n : Nat} {h : Int → Bool} (m : MapH w b n h) (k : Int) (h1 : -9223372036854775808 ≤ k) (h2 : k ≤ 9223372036854775807) : (Instr.lookup 181 (.map (some b)) (.int .i64 k) false).run Tryz.prog w = .ok (.bool (h k)) w  := by
  have hz : ∀ W : World, (zeroValue 4).run Tryz.prog W = .ok (.bool false) W := fun _ => rfl
  exact MapB.look m Tryz.underlying3 Tryz.underlying4 Tryz.underlying181 (hz w) k (i64w h1 h2)
theorem MapH.quiet {w w' : World} {b n : Nat} {h : Int → Bool} (m : MapH w b n h) (hq : Quiet w w') : MapH w' b n h := by
  obtain ⟨k, rfl⟩ := hq
  exact MapB.kept m (S := fun _ => False) ⟨rfl, rfl, rfl, Nat.le_refl _, fun _ _ _ => rfl⟩ (fun h => h)
/-- The value of a literal. -/
def litV (h : Int → Bool) (x : Int) : Bool := h (varC x) == decide (0 < x)
/-- What the closures read: the box of the map, and the box of the function. -/
structure Reads (w : World) (bh bm be n : Nat) (h : Int → Bool) : Prop where
  map : MapH w bm n h
  box : w.cell? ⟨bh, 0, none⟩ = some (.map (some bm))
  fn : w.cell? ⟨be, 0, none⟩ = some (.func (.func 176) #[] #[.pointer (some ⟨bh, 0, none⟩)])
theorem Reads.quiet {w w' : World} {bh bm be n : Nat} {h : Int → Bool} (r : Reads w bh bm be n h) (hq : Quiet w w') : Reads w' bh bm be n h :=
  ⟨MapH.quiet r.map hq, (hq.cell _).trans r.box, (hq.cell _).trans r.fn⟩

set_option maxRecDepth 100000 in
theorem cval_any (bh bm n : Nat) (h : Int → Bool) (x : Int) (w : World) (hm : MapH w bm n h) (hc : w.cell? ⟨bh, 0, none⟩ = some (.map (some bm))) (h1 : -9223372036854775808 ≤ x) (h2 : x ≤ 9223372036854775807) :
    Calls Tryz.prog 176 #[.int .i64 x, .pointer (some ⟨bh, 0, none⟩)] w fun e w' => e = .returned (.bool (litV h x)) ∧ Quiet w w' := by
  have hv := varC_64 h1 h2
  have hlk : ∀ k, (Instr.lookup 181 (.map (some bm)) (.int .i64 (varC x)) false).run Tryz.prog (w.drewN k) = .ok (.bool (h (varC x))) (w.drewN k) := fun k => MapH.look1 (MapH.quiet hm ⟨k, rfl⟩) (varC x) hv.1 hv.2
  have hcv : ∀ k, Calls Tryz.prog 175 #[.int .i64 x] (w.drewN k) fun e w' => e = .returned (.int .i64 (varC x)) ∧ w.drewN k = w' := fun k => cvar_any x _ h1 h2
  have hcn : ∀ k, (w.drewN k).cell? ⟨bh, 0, none⟩ = some (.map (some bm)) := fun k => hc
  have HL : Hid (litV h x = (h (varC x) == decide (0 < x))) := rfl
  generalize litV h x = r at *
  clear hv hm
  generalize varC x = y at *
  generalize h y = t at *
  by_cases hp : 0 < x
  · have hd : decide (0 < x) = true := by simpa using hp
    rw [hd] at HL
    cases t <;>
    · go_enter Tryz.func176, Tryz.ntmps176
      go_wp2_with fail
      go_quiet ((go_at_call 175; exact quiet_left (hcv _)))
      go_wp2
      go_ret
      exact ⟨ret_bool (by rw [HL.out]; rfl), _, rfl⟩
  · have hd : decide (0 < x) = false := by simpa using hp
    rw [hd] at HL
    cases t <;>
    · go_enter Tryz.func176, Tryz.ntmps176
      go_wp2_with fail
      go_quiet ((go_at_call 175; exact quiet_left (hcv _)))
      go_wp2
      go_ret
      exact ⟨ret_bool (by rw [HL.out]; rfl), _, rfl⟩
theorem Reads.val {w : World} {bh bm be n : Nat} {h : Int → Bool} (r : Reads w bh bm be n h) (x : Int) (h1 : -9223372036854775808 ≤ x) (h2 : x ≤ 9223372036854775807) {W : World} (hq : Quiet w W) :
    Calls Tryz.prog 176 #[.int .i64 x, .pointer (some ⟨bh, 0, none⟩)] W fun e w' => e = .returned (.bool (litV h x)) ∧ Quiet W w' :=
  cval_any bh bm n h x W (r.quiet hq).map (r.quiet hq).box h1 h2
set_option maxRecDepth 100000 in
theorem cev11_any (bh bm be n : Nat) (h : Int → Bool) (x : Int) (w : World) (r : Reads w bh bm be n h) (h1 : -9223372036854775808 ≤ x) (h2 : x ≤ 9223372036854775807) :
    Calls Tryz.prog 198 #[.int .i64 x, .pointer (some ⟨be, 0, none⟩)] w fun e w' => e = .returned (.bool (!litV h x)) ∧ Quiet w w' := by
  have HV := Lib.hid (r.val x h1 h2 (Quiet.refl w))
  have hf := r.fn
  clear r
  generalize litV h x = t at *
  go_enter Tryz.func198, Tryz.ntmps198
  go_wp2_with (go_at_call 176; refine HV.out.mono ?_; rintro e w1 ⟨rfl, hq1⟩)
  go_ret
  exact ⟨rfl, hq1⟩
set_option maxRecDepth 100000 in
theorem cev1_any (bh bm be n : Nat) (h : Int → Bool) (v : Value) (l : List Int) (w : World) (r : Reads w bh bm be n h) (H : IsInts w v l) :
    Calls Tryz.prog 197 #[v, .pointer (some ⟨be, 0, none⟩)] w fun e w' => e = .returned (.bool (l.all (litV h))) ∧ Quiet w w' := by
  have h64 : In64 l := by obtain ⟨_, _, _, _, _, _, g, _⟩ := H; exact g
  have ht : TellsB Tryz.prog 198 #[.pointer (some ⟨be, 0, none⟩)] (fun x => !litV h x) l w := fun X x hq hx => cev11_any bh bm be n h x X (r.quiet hq) (h64 x hx).1 (h64 x hx).2
  have HC := Lib.hid (containsi_any (fun x => !litV h x) 198 #[.pointer (some ⟨be, 0, none⟩)] v l w (fun _ _ => rfl) ht H)
  have HE : Hid ((!l.any (fun x => !litV h x)) = l.all (litV h)) := by show _ = _; rw [List.all_eq_not_any_not]
  clear ht h64 r
  generalize l.any (fun x => !litV h x) = t at *
  generalize l.all (litV h) = t2 at *
  obtain ⟨a, cap, rfl⟩ := H.shape
  clear H
  go_enter Tryz.func197, Tryz.ntmps197
  go_wp2_with (go_at_call 146; refine HC.out.mono ?_; rintro e w1 ⟨rfl, hq1⟩)
  go_ret
  exact ⟨ret_bool (by rw [← HE.out]), hq1⟩
set_option maxRecDepth 100000 in
theorem cev2_any (bh bm be n : Nat) (h : Int → Bool) (v : Value) (l : List Int) (w : World) (r : Reads w bh bm be n h) (H : IsInts w v l) :
    Calls Tryz.prog 199 #[v, .pointer (some ⟨be, 0, none⟩)] w fun e w' => e = .returned (.bool (l.any (litV h))) ∧ Quiet w w' := by
  have h64 : In64 l := by obtain ⟨_, _, _, _, _, _, g, _⟩ := H; exact g
  have ht : TellsB Tryz.prog 176 #[.pointer (some ⟨bh, 0, none⟩)] (litV h) l w := fun X x hq hx => r.val x (h64 x hx).1 (h64 x hx).2 hq
  have HC := Lib.hid (containsi_any (litV h) 176 #[.pointer (some ⟨bh, 0, none⟩)] v l w (fun _ _ => rfl) ht H)
  have hf := r.fn
  clear ht h64 r
  generalize l.any (litV h) = t at *
  obtain ⟨a, cap, rfl⟩ := H.shape
  clear H
  go_enter Tryz.func199, Tryz.ntmps199
  go_wp2_with (go_at_call 146; refine HC.out.mono ?_; rintro e w1 ⟨rfl, hq1⟩)
  go_ret
  exact ⟨rfl, hq1⟩
set_option maxRecDepth 100000 in
set_option maxHeartbeats 3200000 in
theorem cev3_any (bh bm be n : Nat) (h : Int → Bool) (v : Value) (l : List Int) (w : World) (r : Reads w bh bm be n h) (H : IsInts w v l) (hl : l.length = 2) :
    Calls Tryz.prog 200 #[v, .pointer (some ⟨be, 0, none⟩)] w fun e w' => e = .returned (.bool (litV h (l.getD 0 0) != litV h (l.getD 1 0))) ∧ Quiet w w' := by
  have h64 : In64 l := by obtain ⟨_, _, _, _, _, _, g, _⟩ := H; exact g
  have m0 := h64 _ (ints_getD_mem (l := l) (k := 0) (by omega))
  have m1 := h64 _ (ints_getD_mem (l := l) (k := 1) (by omega))
  obtain ⟨a, cap, rfl⟩ := H.shape
  obtain ⟨b, off, rfl, hb, d0⟩ := H.cellY (k := 0) (by omega)
  obtain ⟨b', off', e, _, d1⟩ := H.cellY (k := 1) (by omega)
  injection e with e
  injection e with e1 e2 _
  subst e1; subst e2
  rw [Nat.add_zero] at d0
  have c0 : ∀ k, (w.drewN k).cell? ⟨b, off, none⟩ = some (.int .i64 (l.getD 0 0)) := fun k => d0
  have c1 : ∀ k, (w.drewN k).cell? ⟨b, off + 1, none⟩ = some (.int .i64 (l.getD 1 0)) := fun k => d1
  have hf : ∀ k, (w.drewN k).cell? ⟨be, 0, none⟩ = some (.func (.func 176) #[] #[.pointer (some ⟨bh, 0, none⟩)]) := fun k => r.fn
  have hv0 := fun k => r.val (l.getD 0 0) m0.1 m0.2 (W := w.drewN k) ⟨k, rfl⟩
  have hv1 := fun k => r.val (l.getD 1 0) m1.1 m1.2 (W := w.drewN k) ⟨k, rfl⟩
  clear r H d0 d1 h64 m0 m1
  rw [hl]
  generalize l.getD 0 0 = x at *
  generalize l.getD 1 0 = y at *
  generalize litV h x = s at *
  generalize litV h y = t at *
  cases s <;> cases t <;>
  · go_enter Tryz.func200, Tryz.ntmps200
    go_wp2_with fail
    go_quiet ((first | (go_at_call 176; with_reducible exact quiet_q (hv0 _)) | (go_at_call 176; with_reducible exact quiet_q (hv1 _))))
    go_wp2
    go_ret
    exact ⟨rfl, _, rfl⟩
set_option maxRecDepth 100000 in
set_option maxHeartbeats 3200000 in
theorem cev4_any (bh bm be n : Nat) (h : Int → Bool) (v : Value) (l : List Int) (w : World) (r : Reads w bh bm be n h) (H : IsInts w v l) (hl : l.length = 3) :
    Calls Tryz.prog 201 #[v, .pointer (some ⟨be, 0, none⟩)] w fun e w' => e = .returned (.bool (if litV h (l.getD 0 0) = true then litV h (l.getD 1 0) else litV h (l.getD 2 0))) ∧ Quiet w w' := by
  have h64 : In64 l := by obtain ⟨_, _, _, _, _, _, g, _⟩ := H; exact g
  have m0 := h64 _ (ints_getD_mem (l := l) (k := 0) (by omega))
  have m1 := h64 _ (ints_getD_mem (l := l) (k := 1) (by omega))
  have m2 := h64 _ (ints_getD_mem (l := l) (k := 2) (by omega))
  obtain ⟨a, cap, rfl⟩ := H.shape
  obtain ⟨b, off, rfl, hb, d0⟩ := H.cellY (k := 0) (by omega)
  obtain ⟨b', off', e, _, d1⟩ := H.cellY (k := 1) (by omega)
  injection e with e
  injection e with e1 e2 _
  subst e1; subst e2
  obtain ⟨b', off', e, _, d2⟩ := H.cellY (k := 2) (by omega)
  injection e with e
  injection e with e1 e2 _
  subst e1; subst e2
  rw [Nat.add_zero] at d0
  have HD : Hid (∀ W, Quiet w W → (∀ k, (W.drewN k).cell? ⟨b, off, none⟩ = some (.int .i64 (l.getD 0 0))) ∧ (∀ k, (W.drewN k).cell? ⟨b, off + 1, none⟩ = some (.int .i64 (l.getD 1 0))) ∧ (∀ k, (W.drewN k).cell? ⟨b, off + 2, none⟩ = some (.int .i64 (l.getD 2 0))) ∧ ∀ k, (W.drewN k).cell? ⟨be, 0, none⟩ = some (.func (.func 176) #[] #[.pointer (some ⟨bh, 0, none⟩)])) := fun W hq =>
    ⟨fun k => (hq.cell _).trans d0, fun k => (hq.cell _).trans d1, fun k => (hq.cell _).trans d2, fun k => (hq.cell _).trans r.fn⟩
  have HV0 : Hid (∀ W, Quiet w W → ∀ k, Calls Tryz.prog 176 #[.int .i64 (l.getD 0 0), .pointer (some ⟨bh, 0, none⟩)] (W.drewN k) fun e w' => e = .returned (.bool (litV h (l.getD 0 0))) ∧ Quiet (W.drewN k) w') := fun W hq k => r.val _ m0.1 m0.2 (hq.drewN k)
  have HV1 : Hid (∀ W, Quiet w W → ∀ k, Calls Tryz.prog 176 #[.int .i64 (l.getD 1 0), .pointer (some ⟨bh, 0, none⟩)] (W.drewN k) fun e w' => e = .returned (.bool (litV h (l.getD 1 0))) ∧ Quiet (W.drewN k) w') := fun W hq k => r.val _ m1.1 m1.2 (hq.drewN k)
  have HV2 : Hid (∀ W, Quiet w W → ∀ k, Calls Tryz.prog 176 #[.int .i64 (l.getD 2 0), .pointer (some ⟨bh, 0, none⟩)] (W.drewN k) fun e w' => e = .returned (.bool (litV h (l.getD 2 0))) ∧ Quiet (W.drewN k) w') := fun W hq k => r.val _ m2.1 m2.2 (hq.drewN k)
  clear r H d0 d1 d2 h64 m0 m1 m2
  rw [hl]
  generalize l.getD 0 0 = x at *
  generalize l.getD 1 0 = y at *
  generalize l.getD 2 0 = z at *
  generalize litV h x = s at *
  generalize litV h y = t at *
  generalize litV h z = u at *
  obtain ⟨c0, c1, c2, hf⟩ := HD.out w (Quiet.refl w)
  have hv0 := HV0.out w (Quiet.refl w)
  cases s with
  | true =>
    go_enter Tryz.func201, Tryz.ntmps201
    go_wp2_with fail
    go_quiet ((go_at_call 176; with_reducible exact quiet_q (hv0 _)))
    have hq : Quiet w (w.drewN nq) := ⟨nq, rfl⟩
    have HQ := Lib.hid hq
    obtain ⟨g0, g1, g2, gf⟩ := HD.out _ hq
    have hv1 := HV1.out _ hq
    clear c0 c1 c2 hf hv0 hq
    generalize w.drewN nq = wq at *
    go_wp2_with fail
    go_quiet ((go_at_call 176; with_reducible exact quiet_q (hv1 _)))
    go_wp2
    go_ret
    exact ⟨rfl, HQ.out.drewN _⟩
  | false =>
    go_enter Tryz.func201, Tryz.ntmps201
    go_wp2_with fail
    go_quiet ((go_at_call 176; with_reducible exact quiet_q (hv0 _)))
    have hq : Quiet w (w.drewN nq) := ⟨nq, rfl⟩
    have HQ := Lib.hid hq
    obtain ⟨g0, g1, g2, gf⟩ := HD.out _ hq
    have hv2 := HV2.out _ hq
    clear c0 c1 c2 hf hv0 hq
    generalize w.drewN nq = wq at *
    go_wp2_with fail
    go_quiet ((go_at_call 176; with_reducible exact quiet_q (hv2 _)))
    go_wp2
    go_ret
    exact ⟨rfl, HQ.out.drewN _⟩
end Go.Proofs.YtfghjfljomcldaaGreat

/- circ.evaluators. -/
namespace Go.Proofs.YtfghjfljomcldaaGreat
open Go.RowKit
set_option linter.unusedVariables false
set_option linter.unusedSimpArgs false

theorem set_obj {w : World} {b o : Nat} {v : Value} {cs : Array Value} {T : TypeId} {fz : Nat × Nat} (h : w.heap[b]? = some (.cells cs T fz)) : (w.setCell ⟨b, o, none⟩ v).heap[b]? = some (.cells (cs.setIfInBounds o v) T fz) := by
  simp [World.setCell, Array.getElem?_modify, h]
theorem arr_five {w : World} {b : Nat} {cs : Array Value} {T : TypeId} (h : w.heap[b]? = some (.cells cs T (0, 0))) (i : Nat) {v : Value} (hv : cs[i]? = some v) : w.cell? ⟨b, i, none⟩ = some v ∧ w.frozen? ⟨b, i, none⟩ = false := by
  refine ⟨?_, ?_⟩ <;> simp [World.cell?, World.frozen?, h, hv]
/-- The functions of the kinds, over the box of the function that tells a literal's value. -/
def evF (be : Nat) : Array Value := #[.nilFunc, .func (.func 197) #[] #[.pointer (some ⟨be, 0, none⟩)], .func (.func 199) #[] #[.pointer (some ⟨be, 0, none⟩)], .func (.func 200) #[] #[.pointer (some ⟨be, 0, none⟩)], .func (.func 201) #[] #[.pointer (some ⟨be, 0, none⟩)]]
set_option maxRecDepth 100000 in
set_option maxHeartbeats 1600000 in
theorem cevs_any (f : Nat) (cb : Array Value) (w : World) :
    Calls Tryz.prog 177 #[.func (.func f) #[] cb] w fun e w' => e = .returned (.agg (evF w.heap.size)) ∧ Below w.heap.size w w' ∧ w'.cell? ⟨w.heap.size, 0, none⟩ = some (.func (.func f) #[] cb) ∧ w.heap.size < w'.heap.size := by
  obtain ⟨W, hW⟩ : ∃ W, (w.alloc (.cells #[.func (.func f) #[] cb] 142)).alloc (.cells #[.nilFunc, .nilFunc, .nilFunc, .nilFunc, .nilFunc] 195) = W := ⟨_, rfl⟩
  have hb0 : Below w.heap.size w W := by rw [← hW]; exact ((Below.refl w.heap.size w).alloc (Nat.le_refl _) _).alloc (by simp) _
  have hsz : W.heap.size = w.heap.size + 2 := by rw [← hW]; simp
  have hA : W.cell? ⟨w.heap.size, 0, none⟩ = some (.func (.func f) #[] cb) := by rw [← hW]; exact cell_old (cell_fresh rfl)
  have hB : W.heap[w.heap.size + 1]? = some (.cells #[.nilFunc, .nilFunc, .nilFunc, .nilFunc, .nilFunc] 195 (0, 0)) := by
    rw [← hW, heapy, if_pos (by simp)]
  have d0 : W.cell? ⟨w.heap.size + 1, 0, none⟩ = some .nilFunc := (arr_five hB 0 rfl).1
  have e0 : W.frozen? ⟨w.heap.size + 1, 0, none⟩ = false := (arr_five hB 0 (v := .nilFunc) rfl).2
  have d1 : W.cell? ⟨w.heap.size + 1, 1, none⟩ = some .nilFunc := (arr_five hB 1 rfl).1
  have e1 : W.frozen? ⟨w.heap.size + 1, 1, none⟩ = false := (arr_five hB 1 (v := .nilFunc) rfl).2
  have d2 : W.cell? ⟨w.heap.size + 1, 2, none⟩ = some .nilFunc := (arr_five hB 2 rfl).1
  have e2 : W.frozen? ⟨w.heap.size + 1, 2, none⟩ = false := (arr_five hB 2 (v := .nilFunc) rfl).2
  have d3 : W.cell? ⟨w.heap.size + 1, 3, none⟩ = some .nilFunc := (arr_five hB 3 rfl).1
  have e3 : W.frozen? ⟨w.heap.size + 1, 3, none⟩ = false := (arr_five hB 3 (v := .nilFunc) rfl).2
  have d4 : W.cell? ⟨w.heap.size + 1, 4, none⟩ = some .nilFunc := (arr_five hB 4 rfl).1
  have e4 : W.frozen? ⟨w.heap.size + 1, 4, none⟩ = false := (arr_five hB 4 (v := .nilFunc) rfl).2
  have hF := set_obj (o := 4) (v := .func (.func 201) #[] #[.pointer (some ⟨w.heap.size, 0, none⟩)]) (set_obj (o := 3) (v := .func (.func 200) #[] #[.pointer (some ⟨w.heap.size, 0, none⟩)]) (set_obj (o := 2) (v := .func (.func 199) #[] #[.pointer (some ⟨w.heap.size, 0, none⟩)]) (set_obj (o := 1) (v := .func (.func 197) #[] #[.pointer (some ⟨w.heap.size, 0, none⟩)]) (set_obj (o := 0) (v := .nilFunc) hB))))
  have hb1 := ((((hb0.setCell (p := ⟨w.heap.size + 1, 0, none⟩) (by simp) .nilFunc).setCell (p := ⟨w.heap.size + 1, 1, none⟩) (by simp) (.func (.func 197) #[] #[.pointer (some ⟨w.heap.size, 0, none⟩)])).setCell (p := ⟨w.heap.size + 1, 2, none⟩) (by simp) (.func (.func 199) #[] #[.pointer (some ⟨w.heap.size, 0, none⟩)])).setCell (p := ⟨w.heap.size + 1, 3, none⟩) (by simp) (.func (.func 200) #[] #[.pointer (some ⟨w.heap.size, 0, none⟩)])).setCell (p := ⟨w.heap.size + 1, 4, none⟩) (by simp) (.func (.func 201) #[] #[.pointer (some ⟨w.heap.size, 0, none⟩)])
  have hk := ((((Kept.setCell W ⟨w.heap.size + 1, 0, none⟩ .nilFunc).trans (Kept.setCell _ ⟨w.heap.size + 1, 1, none⟩ (.func (.func 197) #[] #[.pointer (some ⟨w.heap.size, 0, none⟩)]))).trans (Kept.setCell _ ⟨w.heap.size + 1, 2, none⟩ (.func (.func 199) #[] #[.pointer (some ⟨w.heap.size, 0, none⟩)]))).trans (Kept.setCell _ ⟨w.heap.size + 1, 3, none⟩ (.func (.func 200) #[] #[.pointer (some ⟨w.heap.size, 0, none⟩)]))).trans (Kept.setCell _ ⟨w.heap.size + 1, 4, none⟩ (.func (.func 201) #[] #[.pointer (some ⟨w.heap.size, 0, none⟩)]))
  have HF := Lib.hid hF
  have HB1 := Lib.hid hb1
  have HK := Lib.hid hk
  have HA := Lib.hid hA
  have HSZ := Lib.hid hsz
  clear hF hb1 hk hA hsz hb0 hB
  go_enter Tryz.func177, Tryz.ntmps177
  go_wp2
  obtain ⟨g0, _⟩ := arr_five HF.out 0 (v := .nilFunc) rfl
  obtain ⟨g1, _⟩ := arr_five HF.out 1 (v := .func (.func 197) #[] #[.pointer (some ⟨w.heap.size, 0, none⟩)]) rfl
  obtain ⟨g2, _⟩ := arr_five HF.out 2 (v := .func (.func 199) #[] #[.pointer (some ⟨w.heap.size, 0, none⟩)]) rfl
  obtain ⟨g3, _⟩ := arr_five HF.out 3 (v := .func (.func 200) #[] #[.pointer (some ⟨w.heap.size, 0, none⟩)]) rfl
  obtain ⟨g4, _⟩ := arr_five HF.out 4 (v := .func (.func 201) #[] #[.pointer (some ⟨w.heap.size, 0, none⟩)]) rfl
  refine ⟨rfl, .agg (evF w.heap.size), by simp [results, Tryz.f177, go_sem, g0, g1, g2, g3, g4, evF], rfl, HB1.out, ?_, ?_⟩
  · exact (HK.out.cell (p := ⟨w.heap.size, 0, none⟩) (by have := HSZ.out; simp; omega) (by simp)).trans HA.out
  · have := HSZ.out
    have := HK.out.size
    omega
end Go.Proofs.YtfghjfljomcldaaGreat
