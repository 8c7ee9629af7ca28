/- Joined texts: CxSimP, CxUnus, CxSims. -/
import Derived.Test.YtafenijbglcppaaK09
import Derived.Test.YtafenijbglcppaaK10
import Derived.Test.YtafenijbglcppaaK03
import Derived.Test.YtafenijbglcppaaK07
import Derived.Laws.EntriesVeiled
/- Nets made simpler, fixed, composed: the words. (Plain lists.) -/
namespace Go.Proofs.Ytafenijbglcppaa
open Go.RowKit
set_option linter.unusedVariables false
set_option linter.unusedSimpArgs false

def outcomeF (k : Int) (l : List Int) : Oc := if k = 1 then mergedF 1 l 65537 else if k = 2 then mergedF 2 l (-65537) else if k = 3 then xorF (l.getD 0 0) (l.getD 1 0) else iteF (l.getD 0 0) (l.getD 1 0) (l.getD 2 0)
abbrev SimS := (Int → Option Int) × List Gt
def simStep (s : SimS) (g : Gt) : SimS :=
  if (outcomeF g.2.1 (g.2.2.map (imageF s.1))).1 = 0 then (updM s.1 g.1 (outcomeF g.2.1 (g.2.2.map (imageF s.1))).2.2, s.2)
  else (s.1, s.2 ++ [(g.1, (outcomeF g.2.1 (g.2.2.map (imageF s.1))).1, (outcomeF g.2.1 (g.2.2.map (imageF s.1))).2.1)])
def simRun (f : Int → Option Int) (gs : List Gt) : SimS := gs.foldl simStep (f, [])
def fixM (a : List Int) : Int → Option Int := a.foldl (fun f x => updM f (varC x) (if 0 < x then 65537 else -65537)) (fun _ => none)
def goneB (f : Int → Option Int) (p : List Blk) : List Blk := p.map (fun b => (b.1, b.2.filter (fun v => (f v).isNone)))
def withoutP (p : List Blk) (f : Int → Option Int) : List Blk := joinL (goneB f p)
abbrev Nt := List Blk × List Gt × Int
def constN (P : List Blk) (v : Bool) : Nt := (P, [((unusedL (flatB P) 1).getD 0 0, 1, [])], if v = true then (unusedL (flatB P) 1).getD 0 0 else -(unusedL (flatB P) 1).getD 0 0)
def usedG (gs : List Gt) (x : Int) : List Gt := gs.filter (fun g => decide (g.1 ∈ reachL gs x))
def simpN (P : List Blk) (gs : List Gt) (o : Int) (a : List Int) : Nt :=
  if varC (imageF (simRun (fixM a) gs).1 o) = 65537 then constN (withoutP P (fixM a)) (decide (imageF (simRun (fixM a) gs).1 o = 65537))
  else (withoutP P (fixM a), usedG (simRun (fixM a) gs).2 (imageF (simRun (fixM a) gs).1 o), imageF (simRun (fixM a) gs).1 o)
def noNet : Nt := ([], [], 0)
def simpleN (P : List Blk) (gs : List Gt) (o : Int) : Nt × Int := if mayN P gs o = true then (simpN P gs o [], 0) else (noNet, 2)
def cofN (P : List Blk) (gs : List Gt) (o : Int) (a : List Int) : Nt × Int := if okN P gs o a = true then (if a.all (fun x => decide (varC x ∈ flatB P)) = true then (simpN P gs o a, 0) else (noNet, 6)) else (noNet, 2)
def sizeG (gs : List Gt) : Nat := (gs.map (fun g => g.2.2.length)).sum
def renG (f : Int → Option Int) (gs : List Gt) : List Gt := gs.map (fun g => (imageF f g.1, g.2.1, g.2.2.map (imageF f)))
/-- New names, by places. -/
def ownM (gs : List Gt) (ns : List Int) : Int → Option Int := (gs.zip ns).foldl (fun f x => updM f x.1.1 x.2) (fun _ => none)
def composeN (P : List Blk) (gs : List Gt) (o v : Int) (P2 : List Blk) (gs2 : List Gt) (o2 : Int) : Nt × Int :=
  if (mayN P gs o && mayN P2 gs2 o2) = true then
    if v ∈ flatB P then
      if (flatB P2).all (fun x => decide (varC x ∈ flatB P) && !decide (varC x = v)) = true then
        if gs2.length ≤ (unusedL ((namedN P gs).getD []) gs2.length).length ∧ sizeG gs + sizeG gs2 ≤ 200000 then
          ((withoutP P (updM (fun _ => none) v (imageF (ownM gs2 (unusedL ((namedN P gs).getD []) gs2.length)) o2)),
            renG (ownM gs2 (unusedL ((namedN P gs).getD []) gs2.length)) gs2 ++ renG (updM (fun _ => none) v (imageF (ownM gs2 (unusedL ((namedN P gs).getD []) gs2.length)) o2)) gs,
            imageF (updM (fun _ => none) v (imageF (ownM gs2 (unusedL ((namedN P gs).getD []) gs2.length)) o2)) o), 0)
        else (noNet, 3)
      else (noNet, 4)
    else (noNet, 6)
  else (noNet, 2)

/-- A number within a bound. -/
def bdI (B x : Int) : Prop := -B ≤ x ∧ x ≤ B
theorem mrgL_mem {idle : Int} : ∀ {l left r : List Int}, mrgL idle left l = some r → (∀ x ∈ r, x ∈ left ∨ x ∈ l) ∧ r.length ≤ left.length + l.length
  | [], left, r, h => by
    unfold mrgL at h
    injection h with h
    subst h
    exact ⟨fun x hx => .inl hx, by simp⟩
  | y :: t, left, r, h => by
    unfold mrgL at h
    split at h
    · cases h
    · split at h
      · obtain ⟨h1, h2⟩ := mrgL_mem h
        refine ⟨fun x hx => ?_, by simp at h2 ⊢; omega⟩
        rcases h1 x hx with h3 | h3
        · rcases List.mem_append.1 h3 with h3 | h3
          · exact .inl h3
          · rw [List.mem_singleton] at h3; exact .inr (h3 ▸ List.mem_cons_self)
        · exact .inr (List.mem_cons_of_mem _ h3)
      · obtain ⟨h1, h2⟩ := mrgL_mem h
        refine ⟨fun x hx => ?_, by simp at h2 ⊢; omega⟩
        rcases h1 x hx with h3 | h3
        · exact .inl h3
        · exact .inr (List.mem_cons_of_mem _ h3)
/-- What comes of a gate is bounded as its literals are. -/
def ocOk (B : Int) (n : Nat) (o : Oc) : Prop := bdI B o.2.2 ∧ (0 ≤ o.1 ∧ o.1 ≤ 4) ∧ o.2.1.length ≤ n ∧ ∀ x ∈ o.2.1, bdI B x
theorem merged_ok {B k idle : Int} {l : List Int} (hk : 0 ≤ k ∧ k ≤ 4) (hB : bdI B idle) (h : ∀ x ∈ l, bdI B x) : ocOk B l.length (mergedF k l idle) := by
  have h0 : bdI B 0 := by unfold bdI at hB ⊢; omega
  unfold mergedF
  split
  · exact ⟨by unfold bdI at hB ⊢; simp only; omega, by simp, by simp, by simp⟩
  · exact ⟨hB, by simp, by simp, by simp⟩
  · rename_i y hy
    obtain ⟨h1, _⟩ := mrgL_mem hy
    refine ⟨?_, by simp, by simp, by simp⟩
    rcases h1 y (by simp) with h2 | h2
    · cases h2
    · exact h y h2
  · rename_i r _ _ hy
    obtain ⟨h1, h2⟩ := mrgL_mem hy
    refine ⟨h0, hk, by simpa using h2, fun x hx => ?_⟩
    rcases h1 x hx with h3 | h3
    · cases h3
    · exact h x h3
theorem xor_ok {B a b : Int} (hB : 65537 ≤ B) (ha : bdI B a) (hb : bdI B b) : ocOk B 2 (xorF a b) := by
  unfold bdI at ha hb
  have key : ∀ o, (o = ((0, [], b) : Oc) ∨ o = (0, [], -b) ∨ o = (0, [], a) ∨ o = (0, [], -a) ∨ o = (0, [], -65537) ∨ o = (0, [], 65537) ∨ o = (3, [a, b], 0)) → ocOk B 2 o := by
    rintro o (rfl | rfl | rfl | rfl | rfl | rfl | rfl)
    all_goals (refine ⟨by unfold bdI; simp only; omega, by simp, by simp, ?_⟩; intro x hx; simp at hx)
    rcases hx with rfl | rfl
    · exact ha
    · exact hb
  apply key
  unfold xorF
  repeat' split
  all_goals simp
theorem ite_ok {B c a b : Int} (hB : 65537 ≤ B) (hc : bdI B c) (ha : bdI B a) (hb : bdI B b) : ocOk B 3 (iteF c a b) := by
  have hn : ∀ {x : Int}, bdI B x → bdI B (-x) := fun h => by unfold bdI at h ⊢; omega
  have hy : bdI B 65537 := by unfold bdI; omega
  have two : ∀ {x y : Int} {k i : Int}, bdI B x → bdI B y → (0 ≤ k ∧ k ≤ 4) → bdI B i → ocOk B 3 (mergedF k [x, y] i) := fun hx hy hk hi => by
    have h := merged_ok (l := [_, _]) hk hi (fun z hz => by
      rcases List.mem_cons.1 hz with hz | hz
      · rw [hz]; exact hx
      · rw [List.mem_singleton] at hz; rw [hz]; exact hy)
    exact ⟨h.1, h.2.1, Nat.le_trans h.2.2.1 (by simp), h.2.2.2⟩
  have one : ∀ {x : Int}, bdI B x → ocOk B 3 (0, [], x) := fun h => ⟨h, by simp, by simp, by simp⟩
  unfold iteF
  split
  · exact one ha
  · split
    · exact one hb
    · split
      · exact one ha
      · split
        · exact two hc hb (by omega) (hn hy)
        · split
          · exact two (hn hc) hb (by omega) hy
          · split
            · exact two (hn hc) ha (by omega) (hn hy)
            · split
              · exact two hc ha (by omega) hy
              · refine ⟨by unfold bdI; simp only; omega, by simp, by simp, fun x hx => ?_⟩
                simp at hx
                rcases hx with rfl | rfl | rfl
                · exact hc
                · exact ha
                · exact hb
theorem outcome_ok {B k : Int} {l : List Int} (hB : 65537 ≤ B) (hf : fitsB k l.length = true) (h : ∀ x ∈ l, bdI B x) : ocOk B l.length (outcomeF k l) := by
  have hy : bdI B 65537 := by unfold bdI; omega
  have hy' : bdI B (-65537) := by unfold bdI; omega
  have at' : ∀ j, j < l.length → bdI B (l.getD j 0) := fun j hj => h _ (ints_getD_mem hj)
  unfold outcomeF
  rcases fits_kind hf with rfl | rfl | ⟨rfl, hn⟩ | ⟨rfl, hn⟩
  · exact merged_ok (by omega) hy h
  · exact merged_ok (by omega) hy' h
  · rw [hn]
    exact xor_ok hB (at' 0 (by omega)) (at' 1 (by omega))
  · rw [hn]
    exact ite_ok hB (at' 0 (by omega)) (at' 1 (by omega)) (at' 2 (by omega))
/-- All that a map says is bounded. -/
def mBd (B : Int) (f : Int → Option Int) : Prop := ∀ k y, f k = some y → bdI B y
theorem mBd.fBd {B : Int} {f : Int → Option Int} (h : mBd B f) (hB : B ≤ 9223372036854775807) : fBd f := fun k y e => by have := h k y e; unfold bdI at this; omega
theorem mBd.upd {B : Int} {f : Int → Option Int} (h : mBd B f) {k y : Int} (hy : bdI B y) : mBd B (updM f k y) := fun j z e => by
  unfold updM at e
  split at e
  · injection e with e; subst e; exact hy
  · exact h j z e
theorem mBd.image {B : Int} {f : Int → Option Int} (h : mBd B f) {x : Int} (hx : bdI B x) : bdI B (imageF f x) := by
  unfold imageF
  cases e : f (varC x) with
  | none => exact hx
  | some y =>
    have := h _ y e
    simp only
    split
    · unfold bdI at this ⊢; omega
    · exact this
theorem mBd_none (B : Int) : mBd B (fun _ => none) := fun _ _ e => by cases e
theorem fixM_snoc (a : List Int) (x : Int) : fixM (a ++ [x]) = updM (fixM a) (varC x) (if 0 < x then 65537 else -65537) := by unfold fixM; rw [List.foldl_append]; rfl
theorem fixM_bd {B : Int} (hB : 65537 ≤ B) (a : List Int) : mBd B (fixM a) := by
  suffices h : ∀ (a : List Int) (f : Int → Option Int), mBd B f → mBd B (a.foldl (fun f x => updM f (varC x) (if 0 < x then 65537 else -65537)) f) from h a _ (mBd_none B)
  intro a
  induction a with
  | nil => exact fun f h => h
  | cons x r ih =>
    intro f h
    exact ih _ (h.upd (by unfold bdI; split <;> omega))
theorem simRun_snoc (f : Int → Option Int) (gs : List Gt) (g : Gt) : simRun f (gs ++ [g]) = simStep (simRun f gs) g := by unfold simRun; rw [List.foldl_append]; rfl
/-- The gates that a simplification goes through: their literals are bounded, each has its shape. -/
def gsOk (B : Int) (gs : List Gt) : Prop := ∀ g ∈ gs, bdI B g.1 ∧ fitsB g.2.1 g.2.2.length = true ∧ g.2.2.length ≤ 200000 ∧ ∀ x ∈ g.2.2, bdI B x
theorem simStep_ok {B : Int} (hB : 65537 ≤ B) {s : SimS} {g : Gt} (hs : mBd B s.1 ∧ ∀ h ∈ s.2, bdI B h.1 ∧ (0 ≤ h.2.1 ∧ h.2.1 ≤ 4) ∧ h.2.2.length ≤ 200000 ∧ ∀ x ∈ h.2.2, bdI B x) (hg : bdI B g.1 ∧ fitsB g.2.1 g.2.2.length = true ∧ g.2.2.length ≤ 200000 ∧ ∀ x ∈ g.2.2, bdI B x) :
    mBd B (simStep s g).1 ∧ ∀ h ∈ (simStep s g).2, bdI B h.1 ∧ (0 ≤ h.2.1 ∧ h.2.1 ≤ 4) ∧ h.2.2.length ≤ 200000 ∧ ∀ x ∈ h.2.2, bdI B x := by
  have ho : ocOk B g.2.2.length (outcomeF g.2.1 (g.2.2.map (imageF s.1))) := by
    have h := outcome_ok (k := g.2.1) (l := g.2.2.map (imageF s.1)) hB (by rw [List.length_map]; exact hg.2.1) (fun x hx => by
      obtain ⟨y, hy, rfl⟩ := List.mem_map.1 hx
      exact hs.1.image (hg.2.2.2 y hy))
    rwa [List.length_map] at h
  unfold simStep
  split
  · exact ⟨hs.1.upd ho.1, hs.2⟩
  · refine ⟨hs.1, fun h hh => ?_⟩
    rcases List.mem_append.1 hh with hh | hh
    · exact hs.2 h hh
    · rw [List.mem_singleton] at hh
      subst hh
      exact ⟨hg.1, ho.2.1, Nat.le_trans ho.2.2.1 hg.2.2.1, ho.2.2.2⟩
theorem simRun_ok {B : Int} (hB : 65537 ≤ B) {f : Int → Option Int} (hf : mBd B f) (gs : List Gt) (hg : gsOk B gs) :
    mBd B (simRun f gs).1 ∧ ∀ h ∈ (simRun f gs).2, bdI B h.1 ∧ (0 ≤ h.2.1 ∧ h.2.1 ≤ 4) ∧ h.2.2.length ≤ 200000 ∧ ∀ x ∈ h.2.2, bdI B x := by
  suffices h : ∀ (gs : List Gt) (s : SimS), gsOk B gs → (mBd B s.1 ∧ ∀ h ∈ s.2, bdI B h.1 ∧ (0 ≤ h.2.1 ∧ h.2.1 ≤ 4) ∧ h.2.2.length ≤ 200000 ∧ ∀ x ∈ h.2.2, bdI B x) → mBd B (gs.foldl simStep s).1 ∧ ∀ h ∈ (gs.foldl simStep s).2, bdI B h.1 ∧ (0 ≤ h.2.1 ∧ h.2.1 ≤ 4) ∧ h.2.2.length ≤ 200000 ∧ ∀ x ∈ h.2.2, bdI B x from h gs (f, []) hg ⟨hf, fun _ h => by cases h⟩
  intro gs
  induction gs with
  | nil => exact fun s _ h => h
  | cons g r ih =>
    intro s hg hs
    exact ih _ (fun x hx => hg x (List.mem_cons_of_mem _ hx)) (simStep_ok hB hs (hg g List.mem_cons_self))
theorem simRun_len (f : Int → Option Int) (gs : List Gt) : (simRun f gs).2.length ≤ gs.length := by
  suffices h : ∀ (gs : List Gt) (s : SimS), (gs.foldl simStep s).2.length ≤ s.2.length + gs.length from by
    have h1 := h gs (f, [])
    unfold simRun
    simpa using h1
  intro gs
  induction gs with
  | nil => intro s; simp
  | cons g r ih =>
    intro s
    have h1 := ih (simStep s g)
    have h2 : (simStep s g).2.length ≤ s.2.length + 1 := by unfold simStep; split <;> simp
    simp only [List.foldl_cons, List.length_cons]
    omega
theorem goneB_take {f : Int → Option Int} {p : List Blk} {k : Nat} (h : k < p.length) : goneB f (p.take (k + 1)) = goneB f (p.take k) ++ [((p.getD k dB).1, (p.getD k dB).2.filter (fun v => (f v).isNone))] := by
  unfold goneB
  rw [take_two (d := dB) h, List.map_append]
  rfl
theorem goneB_flat (f : Int → Option Int) (p : List Blk) : flatB (goneB f p) = (flatB p).filter (fun v => (f v).isNone) := by
  unfold flatB goneB
  induction p with
  | nil => rfl
  | cons b r ih => simp only [List.map_cons, List.flatten_cons, List.filter_append] at ih ⊢; rw [ih]
theorem without_flat (p : List Blk) (f : Int → Option Int) : flatB (withoutP p f) = (flatB p).filter (fun v => (f v).isNone) := by unfold withoutP; rw [flat_joinL, goneB_flat]

end Go.Proofs.Ytafenijbglcppaa

/- circ.unused. -/
namespace Go.Proofs.Ytafenijbglcppaa
open Go.RowKit
set_option linter.unusedVariables false
set_option linter.unusedSimpArgs false

set_option maxRecDepth 100000 in
set_option maxHeartbeats 1600000 in
theorem cunused_any (b : Nat) (S : List Int) (k : Int) (w : World) (hS : SetI w b S) (hk0 : 0 ≤ k) (hk1 : k ≤ 9223372036854775807) :
    Calls Try.prog 22 #[.map (some b), .int .i64 k] w (RetOwn w (unusedL S k.toNat)) := by
  obtain ⟨gn, hg⟩ : ∃ gn : Nat, gn = 65536 := ⟨_, rfl⟩
  have hg1 : (gn : Int) ≤ 65536 := by omega
  have hg2 : (65536 : Int) ≤ (gn : Int) := by omega
  have HG := Lib.hid hg
  have HS := Lib.hid hS
  have hz : ∀ X : World, (zeroValue 4).run Try.prog X = .ok (.bool false) X := fun _ => rfl
  have HZ := Lib.hid hz
  clear hg hS hz
  go_enter Try.func22, Try.ntmps22
  go_wp2
  go_loopw [5, 6] (fun o v wr => ∃ (m : Nat), m ≤ gn ∧ v = .int .i64 ((m : Int) + 1) ∧ Own wr w.heap.size o (freeUp S m) ∧ ((freeUp S m).length : Int) ≤ k ∧ SetI wr b S ∧ Below w.heap.size w wr) (fun _ v _ => gn + 1 - (intOf v).toNat)
  case atStart => exact ⟨0, Nat.zero_le _, rfl, Own.nil _ _, by simpa [freeUp] using hk0, HS.out, Below.refl _ _⟩
  case round =>
    obtain ⟨m, hm, rfl, hown, hlen, hset, hbel⟩ := hrel
    obtain ⟨oa, oc, rfl⟩ := own_shC hown
    have HSU := Lib.hid (freeUp_succ S m)
    have HLM := Lib.hid (freeUp_len S m)
    have hszr := hbel.size
    have hla := hset.look (HZ.out wr) ((m : Int) + 1) (i64w (by omega) (by omega))
    have HAT := Lib.hid (fun (hm : m ≤ 65536) (hl : (freeUp S m).length ≤ k.toNat) (h : m = 65536 ∨ k.toNat ≤ (freeUp S m).length) => unused_at (S := S) hm hl h)
    have HOW := Lib.hid hown
    have HSE := Lib.hid hset
    have HBE := Lib.hid hbel
    clear hown hset hbel
    generalize freeUp S m = F at *
    have hm0 : (0 : Int) ≤ (m : Int) := by omega
    by_cases hlt : m < gn
    · have h1 : (m : Int) + 1 ≤ 65536 := by omega
      have HLT := Lib.hid hlt
      clear hlt
      by_cases hlk : (F.length : Int) < k
      · by_cases hin : ((m : Int) + 1) ∈ S
        · have hd : decide (((m : Int) + 1) ∈ S) = true := by simpa using hin
          rw [hd] at hla
          rw [if_pos hin, List.append_nil] at HSU
          clear hin hd
          go_wp2
          go_roundw
          case rel => exact ⟨m + 1, HLT.out, by go_num, by rw [HSU.out]; exact HOW.out, by rw [HSU.out]; exact hlen, HSE.out, HBE.out⟩
          case measure => have := HLT.out; simp [intOf]; omega
        · have hd : decide (((m : Int) + 1) ∈ S) = false := by simpa using hin
          rw [hd] at hla
          rw [if_neg hin] at HSU
          clear hin hd
          go_wp2_with (at_builtin; refine wpList_app1 rfl (.tmp 21) (.tmp 23) rfl w.heap.size (.slice oa F.length oc) F ((m : Int) + 1) wr.heap.size rfl rfl (HOW.out.alloc _) (cell_fresh rfl) (by have := HLM.out; have := HLT.out; omega) (by simp; omega) ?_; intro v2 w2 ho2 hg2; have hal : Below wr.heap.size wr (wr.alloc (.cells #[.int .i64 ((m : Int) + 1)] 3)) := (Below.refl _ _).alloc (Nat.le_refl _) _; have hlo : ∀ g, (Value.slice oa F.length oc).ownBlock = some g → w.heap.size ≤ g := fun g hg => (HOW.out.lt g hg).1; have HB2 : Hid (Below w.heap.size w w2) := (HBE.out.alloc HBE.out.size _).grown hg2 (by simp; omega) (fun g hg => by have := hlo g hg; omega); have HS2 : Hid (SetI w2 b S) := HS.out.below HB2.out (Nat.le_refl _); have HO2 := Lib.hid ho2; clear ho2 hg2 hal hlo)
          go_roundw
          case rel => exact ⟨m + 1, HLT.out, by go_num, by rw [HSU.out]; exact HO2.out, by rw [HSU.out, List.length_append]; simp; omega, HS2.out, HB2.out⟩
          case measure => have := HLT.out; simp [intOf]; omega
      · have hkl : F.length = k.toNat := by omega
        have HU : Hid (unusedL S k.toNat = F) := HAT.out (by have := HG.out; have := HLT.out; omega) (by omega) (.inr (by omega))
        clear hkl
        go_wp2
        go_ret
        rw [HU.out]
        exact ⟨_, rfl, HOW.out, HBE.out⟩
    · have hmg : m = gn := by omega
      have h1 : ¬ ((m : Int) + 1 ≤ 65536) := by omega
      have h1b : decide ((m : Int) + 1 ≤ 65536) = false := by simpa using h1
      have HU : Hid (unusedL S k.toNat = F) := HAT.out (by have := HG.out; omega) (by omega) (.inl (by have := HG.out; omega))
      clear hmg hlt
      go_wp2
      go_ret
      rw [HU.out]
      exact ⟨_, rfl, HOW.out, HBE.out⟩
end Go.Proofs.Ytafenijbglcppaa

/- circ.simplifiers, and its functions of xor and ite. -/
namespace Go.Proofs.Ytafenijbglcppaa
open Go.RowKit
set_option linter.unusedVariables false
set_option linter.unusedSimpArgs false

set_option maxRecDepth 100000 in
set_option maxHeartbeats 3200000 in
theorem csim3_any (v : Value) (l : List Int) (w : World) (H : IsInts w v l) (hb : ∀ x ∈ l, -9223372036854775807 ≤ x ∧ x ≤ 9223372036854775807) (hl : l.length = 2) :
    Calls Try.prog 67 #[v] w (OutP w (xorF (l.getD 0 0) (l.getD 1 0))) := by
  have m0 := hb _ (ints_getD_mem (l := l) (k := 0) (by omega))
  have m1 := hb _ (ints_getD_mem (l := l) (k := 1) (by omega))
  have hbW : Below w.heap.size w (w.alloc (.cells #[.int .u8 0, .slice none 0 0, .int .i64 0] 95)) := (Below.refl _ _).alloc (Nat.le_refl _) _
  obtain ⟨a, cap, rfl⟩ := H.shape
  obtain ⟨b, off, rfl, hbl, d0⟩ := H.cellY (k := 0) (by omega)
  obtain ⟨b', off', e, _, d1⟩ := H.cellY (k := 1) (by omega)
  injection e with e
  injection e with e1 e2 _
  subst e1; subst e2
  rw [Nat.add_zero] at d0
  have HX : Hid (∀ X, Below w.heap.size w X → X.cell? ⟨b, off, none⟩ = some (.int .i64 (l.getD 0 0)) ∧ X.cell? ⟨b, off + 1, none⟩ = some (.int .i64 (l.getD 1 0))) := fun X hX => ⟨(hX.cell (p := ⟨b, off, none⟩) hbl).trans d0, (hX.cell (p := ⟨b, off + 1, none⟩) hbl).trans d1⟩
  have HM : Hid (∀ X, Calls Try.prog 68 #[.int .i64 (l.getD 0 0), .int .i64 (l.getD 1 0)] X (OutP X (xorF (l.getD 0 0) (l.getD 1 0)))) := fun X => cxor_any (l.getD 0 0) (l.getD 1 0) X m0.1 m0.2 m1.1 m1.2
  clear H hb d0 m0 d1 m1
  rw [hl]
  generalize l.getD 0 0 = x0 at *
  generalize l.getD 1 0 = x1 at *
  obtain ⟨⟨rk, rl, rm⟩, hR⟩ : ∃ r, xorF x0 x1 = r := ⟨_, rfl⟩
  rw [hR] at HM ⊢
  clear hR
  go_enter Try.func67, Try.ntmps67
  go_wp2_with fail
  refine wp_region_held_drew (S := fun X => Below w.heap.size w X) (by kernel_rfl) hbW.drew (fun hSd => ?_)
  have hSe : Below (w.alloc (.cells #[.int .u8 0, .slice none 0 0, .int .i64 0] 95)).heap.size (w.alloc (.cells #[.int .u8 0, .slice none 0 0, .int .i64 0] 95)) (w.alloc (.cells #[.int .u8 0, .slice none 0 0, .int .i64 0] 95)).drew := (Below.refl _ _).drew
  have HSD := Lib.hid hSe
  clear hSe
  have HDZ := Lib.hid HSD.out.size
  generalize (w.alloc (.cells #[.int .u8 0, .slice none 0 0, .int .i64 0] 95)).drew = wd at *
  refine takeC (i := 0) (v := .slice (some ⟨b, off, none⟩) 2 cap) (some 3) rfl rfl (by kernel_rfl) (by kernel_rfl) (by kernel_rfl) (fun _ _ _ h => h) (Or.inl ⟨by rfl, ?_⟩) (by assumption) ?_
  · intro wz hSw; obtain ⟨r0, r1⟩ := HX.out wz hSw; go_simp
  try simp only [Act.put, List.setIfInBounds_toArray, List.set_cons_zero, List.set_cons_succ]
  refine takeC (i := 1) (v := .pointer (some ⟨b, off, none⟩)) (some 4) rfl rfl (by kernel_rfl) (by kernel_rfl) (by kernel_rfl) (fun _ _ _ h => h) (Or.inl ⟨by rfl, ?_⟩) (by assumption) ?_
  · intro wz hSw; obtain ⟨r0, r1⟩ := HX.out wz hSw; go_simp
  try simp only [Act.put, List.setIfInBounds_toArray, List.set_cons_zero, List.set_cons_succ]
  refine takeC (i := 2) (v := .int .i64 x0) (some 5) rfl rfl (by kernel_rfl) (by kernel_rfl) (by kernel_rfl) (fun _ _ _ h => h) (Or.inl ⟨by rfl, ?_⟩) (by assumption) ?_
  · intro wz hSw; obtain ⟨r0, r1⟩ := HX.out wz hSw; go_simp
  try simp only [Act.put, List.setIfInBounds_toArray, List.set_cons_zero, List.set_cons_succ]
  refine takeC (i := 3) (v := .slice (some ⟨b, off, none⟩) 2 cap) (some 6) rfl rfl (by kernel_rfl) (by kernel_rfl) (by kernel_rfl) (fun _ _ _ h => h) (Or.inl ⟨by rfl, ?_⟩) (by assumption) ?_
  · intro wz hSw; obtain ⟨r0, r1⟩ := HX.out wz hSw; go_simp
  try simp only [Act.put, List.setIfInBounds_toArray, List.set_cons_zero, List.set_cons_succ]
  refine takeC (i := 4) (v := .pointer (some ⟨b, off + 1, none⟩)) (some 7) rfl rfl (by kernel_rfl) (by kernel_rfl) (by kernel_rfl) (fun _ _ _ h => h) (Or.inl ⟨by rfl, ?_⟩) (by assumption) ?_
  · intro wz hSw; obtain ⟨r0, r1⟩ := HX.out wz hSw; go_simp
  try simp only [Act.put, List.setIfInBounds_toArray, List.set_cons_zero, List.set_cons_succ]
  refine takeC (i := 5) (v := .int .i64 x1) (some 8) rfl rfl (by kernel_rfl) (by kernel_rfl) (by kernel_rfl) (fun _ _ _ h => h) (Or.inl ⟨by rfl, ?_⟩) (by assumption) ?_
  · intro wz hSw; obtain ⟨r0, r1⟩ := HX.out wz hSw; go_simp
  try simp only [Act.put, List.setIfInBounds_toArray, List.set_cons_zero, List.set_cons_succ]
  refine wpAnyH_ready (rs := [6]) (by kernel_rfl) (by simp) ?_
  refine AllReadyH.cons rfl (fun K hK => ?_) AllReadyH.nil
  go_simp
  go_wp2_with (go_at_call 68; refine (HM.out wd).mono ?_; rintro e w1 ⟨u, rfl, ho1, hb1⟩; simp only at ho1; obtain ⟨ua, uc, rfl⟩ := own_shC ho1)
  have hb2 : Below (w.alloc (.cells #[.int .u8 0, .slice none 0 0, .int .i64 0] 95)).heap.size (w.alloc (.cells #[.int .u8 0, .slice none 0 0, .int .i64 0] 95)) w1 := HSD.out.trans (hb1.mono HSD.out.size)
  have HO1 := Lib.hid (ho1.mono HDZ.out)
  obtain ⟨⟨d0, d1, d2, e0, e1, e2⟩, hrt⟩ := box_ret hb2
  have HRT := Lib.hid hrt
  have HB2 := Lib.hid hb2
  have hb3 : Below w.heap.size w w1 := hbW.trans (hb2.mono (by simp))
  refine hK.out _ _ hb3 (fun hH5 => ?_)
  clear hK K
  try simp only [Act.put, List.setIfInBounds_toArray, List.set_cons_zero, List.set_cons_succ]
  clear hrt ho1 hb1 hb2 hb3
  obtain ⟨⟨g0, g1, g2⟩, hbf, hof⟩ := HRT.out (.int .u8 rk) (.slice ua rl.length uc) (.int .i64 rm)
  have HFS := Lib.hid hbf
  have HOF := Lib.hid (hof _ _ HO1.out)
  clear hof hbf
  refine wpAnyH_ready (rs := [7]) (by kernel_rfl) (by simp) ?_
  refine AllReadyH.cons rfl (fun K hK => ?_) AllReadyH.nil
  go_simp
  refine hK.out _ _ HFS.out (fun hH6 => ?_)
  clear hK K
  try simp only [Act.put, List.setIfInBounds_toArray, List.set_cons_zero, List.set_cons_succ]
  refine wpAnyH_done (by kernel_rfl) ?_ _
  go_wp2
  refine ⟨rfl, .agg #[.int .u8 rk, .slice ua rl.length uc, .int .i64 rm], by simp [results, Try.f67, go_sem, g0, g1, g2], ?_⟩
  exact ⟨_, rfl, HOF.out, HFS.out⟩
set_option maxRecDepth 100000 in
set_option maxHeartbeats 3200000 in
theorem csim4_any (v : Value) (l : List Int) (w : World) (H : IsInts w v l) (hb : ∀ x ∈ l, -9223372036854775807 ≤ x ∧ x ≤ 9223372036854775807) (hl : l.length = 3) :
    Calls Try.prog 69 #[v] w (OutP w (iteF (l.getD 0 0) (l.getD 1 0) (l.getD 2 0))) := by
  have m0 := hb _ (ints_getD_mem (l := l) (k := 0) (by omega))
  have m1 := hb _ (ints_getD_mem (l := l) (k := 1) (by omega))
  have m2 := hb _ (ints_getD_mem (l := l) (k := 2) (by omega))
  have hbW : Below w.heap.size w (w.alloc (.cells #[.int .u8 0, .slice none 0 0, .int .i64 0] 95)) := (Below.refl _ _).alloc (Nat.le_refl _) _
  obtain ⟨a, cap, rfl⟩ := H.shape
  obtain ⟨b, off, rfl, hbl, d0⟩ := H.cellY (k := 0) (by omega)
  obtain ⟨b', off', e, _, d1⟩ := H.cellY (k := 1) (by omega)
  injection e with e
  injection e with e1 e2 _
  subst e1; subst e2
  obtain ⟨b', off', e, _, d2⟩ := H.cellY (k := 2) (by omega)
  injection e with e
  injection e with e1 e2 _
  subst e1; subst e2
  rw [Nat.add_zero] at d0
  have HX : Hid (∀ X, Below w.heap.size w X → X.cell? ⟨b, off, none⟩ = some (.int .i64 (l.getD 0 0)) ∧ X.cell? ⟨b, off + 1, none⟩ = some (.int .i64 (l.getD 1 0)) ∧ X.cell? ⟨b, off + 2, none⟩ = some (.int .i64 (l.getD 2 0))) := fun X hX => ⟨(hX.cell (p := ⟨b, off, none⟩) hbl).trans d0, (hX.cell (p := ⟨b, off + 1, none⟩) hbl).trans d1, (hX.cell (p := ⟨b, off + 2, none⟩) hbl).trans d2⟩
  have HM : Hid (∀ X, Calls Try.prog 70 #[.int .i64 (l.getD 0 0), .int .i64 (l.getD 1 0), .int .i64 (l.getD 2 0)] X (OutP X (iteF (l.getD 0 0) (l.getD 1 0) (l.getD 2 0)))) := fun X => cite_any (l.getD 0 0) (l.getD 1 0) (l.getD 2 0) X m0.1 m0.2 m1.1 m1.2 m2.1 m2.2
  clear H hb d0 m0 d1 m1 d2 m2
  rw [hl]
  generalize l.getD 0 0 = x0 at *
  generalize l.getD 1 0 = x1 at *
  generalize l.getD 2 0 = x2 at *
  obtain ⟨⟨rk, rl, rm⟩, hR⟩ : ∃ r, iteF x0 x1 x2 = r := ⟨_, rfl⟩
  rw [hR] at HM ⊢
  clear hR
  go_enter Try.func69, Try.ntmps69
  go_wp2_with fail
  refine wp_region_held_drew (S := fun X => Below w.heap.size w X) (by kernel_rfl) hbW.drew (fun hSd => ?_)
  have hSe : Below (w.alloc (.cells #[.int .u8 0, .slice none 0 0, .int .i64 0] 95)).heap.size (w.alloc (.cells #[.int .u8 0, .slice none 0 0, .int .i64 0] 95)) (w.alloc (.cells #[.int .u8 0, .slice none 0 0, .int .i64 0] 95)).drew := (Below.refl _ _).drew
  have HSD := Lib.hid hSe
  clear hSe
  have HDZ := Lib.hid HSD.out.size
  generalize (w.alloc (.cells #[.int .u8 0, .slice none 0 0, .int .i64 0] 95)).drew = wd at *
  refine takeC (i := 0) (v := .slice (some ⟨b, off, none⟩) 3 cap) (some 3) rfl rfl (by kernel_rfl) (by kernel_rfl) (by kernel_rfl) (fun _ _ _ h => h) (Or.inl ⟨by rfl, ?_⟩) (by assumption) ?_
  · intro wz hSw; obtain ⟨r0, r1, r2⟩ := HX.out wz hSw; go_simp
  try simp only [Act.put, List.setIfInBounds_toArray, List.set_cons_zero, List.set_cons_succ]
  refine takeC (i := 1) (v := .pointer (some ⟨b, off, none⟩)) (some 4) rfl rfl (by kernel_rfl) (by kernel_rfl) (by kernel_rfl) (fun _ _ _ h => h) (Or.inl ⟨by rfl, ?_⟩) (by assumption) ?_
  · intro wz hSw; obtain ⟨r0, r1, r2⟩ := HX.out wz hSw; go_simp
  try simp only [Act.put, List.setIfInBounds_toArray, List.set_cons_zero, List.set_cons_succ]
  refine takeC (i := 2) (v := .int .i64 x0) (some 5) rfl rfl (by kernel_rfl) (by kernel_rfl) (by kernel_rfl) (fun _ _ _ h => h) (Or.inl ⟨by rfl, ?_⟩) (by assumption) ?_
  · intro wz hSw; obtain ⟨r0, r1, r2⟩ := HX.out wz hSw; go_simp
  try simp only [Act.put, List.setIfInBounds_toArray, List.set_cons_zero, List.set_cons_succ]
  refine takeC (i := 3) (v := .slice (some ⟨b, off, none⟩) 3 cap) (some 6) rfl rfl (by kernel_rfl) (by kernel_rfl) (by kernel_rfl) (fun _ _ _ h => h) (Or.inl ⟨by rfl, ?_⟩) (by assumption) ?_
  · intro wz hSw; obtain ⟨r0, r1, r2⟩ := HX.out wz hSw; go_simp
  try simp only [Act.put, List.setIfInBounds_toArray, List.set_cons_zero, List.set_cons_succ]
  refine takeC (i := 4) (v := .pointer (some ⟨b, off + 1, none⟩)) (some 7) rfl rfl (by kernel_rfl) (by kernel_rfl) (by kernel_rfl) (fun _ _ _ h => h) (Or.inl ⟨by rfl, ?_⟩) (by assumption) ?_
  · intro wz hSw; obtain ⟨r0, r1, r2⟩ := HX.out wz hSw; go_simp
  try simp only [Act.put, List.setIfInBounds_toArray, List.set_cons_zero, List.set_cons_succ]
  refine takeC (i := 5) (v := .int .i64 x1) (some 8) rfl rfl (by kernel_rfl) (by kernel_rfl) (by kernel_rfl) (fun _ _ _ h => h) (Or.inl ⟨by rfl, ?_⟩) (by assumption) ?_
  · intro wz hSw; obtain ⟨r0, r1, r2⟩ := HX.out wz hSw; go_simp
  try simp only [Act.put, List.setIfInBounds_toArray, List.set_cons_zero, List.set_cons_succ]
  refine takeC (i := 6) (v := .slice (some ⟨b, off, none⟩) 3 cap) (some 9) rfl rfl (by kernel_rfl) (by kernel_rfl) (by kernel_rfl) (fun _ _ _ h => h) (Or.inl ⟨by rfl, ?_⟩) (by assumption) ?_
  · intro wz hSw; obtain ⟨r0, r1, r2⟩ := HX.out wz hSw; go_simp
  try simp only [Act.put, List.setIfInBounds_toArray, List.set_cons_zero, List.set_cons_succ]
  refine takeC (i := 7) (v := .pointer (some ⟨b, off + 2, none⟩)) (some 10) rfl rfl (by kernel_rfl) (by kernel_rfl) (by kernel_rfl) (fun _ _ _ h => h) (Or.inl ⟨by rfl, ?_⟩) (by assumption) ?_
  · intro wz hSw; obtain ⟨r0, r1, r2⟩ := HX.out wz hSw; go_simp
  try simp only [Act.put, List.setIfInBounds_toArray, List.set_cons_zero, List.set_cons_succ]
  refine takeC (i := 8) (v := .int .i64 x2) (some 11) rfl rfl (by kernel_rfl) (by kernel_rfl) (by kernel_rfl) (fun _ _ _ h => h) (Or.inl ⟨by rfl, ?_⟩) (by assumption) ?_
  · intro wz hSw; obtain ⟨r0, r1, r2⟩ := HX.out wz hSw; go_simp
  try simp only [Act.put, List.setIfInBounds_toArray, List.set_cons_zero, List.set_cons_succ]
  refine wpAnyH_ready (rs := [9]) (by kernel_rfl) (by simp) ?_
  refine AllReadyH.cons rfl (fun K hK => ?_) AllReadyH.nil
  go_simp
  go_wp2_with (go_at_call 70; refine (HM.out wd).mono ?_; rintro e w1 ⟨u, rfl, ho1, hb1⟩; simp only at ho1; obtain ⟨ua, uc, rfl⟩ := own_shC ho1)
  have hb2 : Below (w.alloc (.cells #[.int .u8 0, .slice none 0 0, .int .i64 0] 95)).heap.size (w.alloc (.cells #[.int .u8 0, .slice none 0 0, .int .i64 0] 95)) w1 := HSD.out.trans (hb1.mono HSD.out.size)
  have HO1 := Lib.hid (ho1.mono HDZ.out)
  obtain ⟨⟨d0, d1, d2, e0, e1, e2⟩, hrt⟩ := box_ret hb2
  have HRT := Lib.hid hrt
  have HB2 := Lib.hid hb2
  have hb3 : Below w.heap.size w w1 := hbW.trans (hb2.mono (by simp))
  refine hK.out _ _ hb3 (fun hH5 => ?_)
  clear hK K
  try simp only [Act.put, List.setIfInBounds_toArray, List.set_cons_zero, List.set_cons_succ]
  clear hrt ho1 hb1 hb2 hb3
  obtain ⟨⟨g0, g1, g2⟩, hbf, hof⟩ := HRT.out (.int .u8 rk) (.slice ua rl.length uc) (.int .i64 rm)
  have HFS := Lib.hid hbf
  have HOF := Lib.hid (hof _ _ HO1.out)
  clear hof hbf
  refine wpAnyH_ready (rs := [10]) (by kernel_rfl) (by simp) ?_
  refine AllReadyH.cons rfl (fun K hK => ?_) AllReadyH.nil
  go_simp
  refine hK.out _ _ HFS.out (fun hH6 => ?_)
  clear hK K
  try simp only [Act.put, List.setIfInBounds_toArray, List.set_cons_zero, List.set_cons_succ]
  refine wpAnyH_done (by kernel_rfl) ?_ _
  go_wp2
  refine ⟨rfl, .agg #[.int .u8 rk, .slice ua rl.length uc, .int .i64 rm], by simp [results, Try.f69, go_sem, g0, g1, g2], ?_⟩
  exact ⟨_, rfl, HOF.out, HFS.out⟩

/-- The functions of the kinds that simplify a gate. -/
def simF : Array Value := #[.nilFunc, .func (.func 63) #[] #[], .func (.func 65) #[] #[], .func (.func 67) #[] #[], .func (.func 69) #[] #[]]
set_option maxRecDepth 100000 in
set_option maxHeartbeats 1600000 in
theorem csims_any (w : World) :
    Calls Try.prog 44 #[] w fun e w' => e = .returned (.agg simF) ∧ Below w.heap.size w w' := by
  obtain ⟨W, hW⟩ : ∃ W, w.alloc (.cells #[.nilFunc, .nilFunc, .nilFunc, .nilFunc, .nilFunc] 92) = W := ⟨_, rfl⟩
  have hb0 : Below w.heap.size w W := by rw [← hW]; exact (Below.refl w.heap.size w).alloc (Nat.le_refl _) _
  have hB : W.heap[w.heap.size]? = some (.cells #[.nilFunc, .nilFunc, .nilFunc, .nilFunc, .nilFunc] 92 (0, 0)) := by
    rw [← hW, heapy, if_pos (by simp)]
  have d0 : W.cell? ⟨w.heap.size, 0, none⟩ = some .nilFunc := (arr_five hB 0 rfl).1
  have e0 : W.frozen? ⟨w.heap.size, 0, none⟩ = false := (arr_five hB 0 (v := .nilFunc) rfl).2
  have d1 : W.cell? ⟨w.heap.size, 1, none⟩ = some .nilFunc := (arr_five hB 1 rfl).1
  have e1 : W.frozen? ⟨w.heap.size, 1, none⟩ = false := (arr_five hB 1 (v := .nilFunc) rfl).2
  have d2 : W.cell? ⟨w.heap.size, 2, none⟩ = some .nilFunc := (arr_five hB 2 rfl).1
  have e2 : W.frozen? ⟨w.heap.size, 2, none⟩ = false := (arr_five hB 2 (v := .nilFunc) rfl).2
  have d3 : W.cell? ⟨w.heap.size, 3, none⟩ = some .nilFunc := (arr_five hB 3 rfl).1
  have e3 : W.frozen? ⟨w.heap.size, 3, none⟩ = false := (arr_five hB 3 (v := .nilFunc) rfl).2
  have d4 : W.cell? ⟨w.heap.size, 4, none⟩ = some .nilFunc := (arr_five hB 4 rfl).1
  have e4 : W.frozen? ⟨w.heap.size, 4, none⟩ = false := (arr_five hB 4 (v := .nilFunc) rfl).2
  have HF := Lib.hid (set_obj (o := 4) (v := .func (.func 69) #[] #[]) (set_obj (o := 3) (v := .func (.func 67) #[] #[]) (set_obj (o := 2) (v := .func (.func 65) #[] #[]) (set_obj (o := 1) (v := .func (.func 63) #[] #[]) (set_obj (o := 0) (v := .nilFunc) hB)))))
  have HB1 := Lib.hid (((((hb0.setCell (p := ⟨w.heap.size, 0, none⟩) (by simp) .nilFunc).setCell (p := ⟨w.heap.size, 1, none⟩) (by simp) (.func (.func 63) #[] #[])).setCell (p := ⟨w.heap.size, 2, none⟩) (by simp) (.func (.func 65) #[] #[])).setCell (p := ⟨w.heap.size, 3, none⟩) (by simp) (.func (.func 67) #[] #[])).setCell (p := ⟨w.heap.size, 4, none⟩) (by simp) (.func (.func 69) #[] #[]))
  clear hb0 hB
  go_enter Try.func44, Try.ntmps44
  go_wp2
  obtain ⟨g0, _⟩ := arr_five HF.out 0 (v := .nilFunc) rfl
  obtain ⟨g1, _⟩ := arr_five HF.out 1 (v := .func (.func 63) #[] #[]) rfl
  obtain ⟨g2, _⟩ := arr_five HF.out 2 (v := .func (.func 65) #[] #[]) rfl
  obtain ⟨g3, _⟩ := arr_five HF.out 3 (v := .func (.func 67) #[] #[]) rfl
  obtain ⟨g4, _⟩ := arr_five HF.out 4 (v := .func (.func 69) #[] #[]) rfl
  refine ⟨rfl, .agg simF, by simp [results, Try.f44, go_sem, g0, g1, g2, g3, g4, simF], rfl, HB1.out⟩
end Go.Proofs.Ytafenijbglcppaa
