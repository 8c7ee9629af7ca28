/- slices.symMergeCmpFunc at rows of a Dqbf, in full. Written by program. -/
import Derived.Test.YtmiijgjpkkmoaaaGreatPxStabM
namespace Go.Proofs.YtmiijgjpkkmoaaaGreat
open Go.RowKit Go.Shelf Go.Lib Go.Sort
set_option linter.unusedVariables false
set_option linter.unusedSimpArgs false

theorem rot_none {d : Array DepV} {s m e : Nat} (h : ¬ (s < m ∧ m < e)) (hs : s ≤ m) (he : m ≤ e) : RotP d d s m e := by
  refine ⟨fun k hk => ?_, fun k hk => ?_, fun t ht => rfl⟩
  · rw [show s + k = m + k by omega]
  · rw [show s + (e - m) + k = s + k by omega]
theorem Mrg.after {lt : DepV → DepV → Bool} {R : DepV → DepV → Prop} {d1 d2 : Array DepV} {a mid en b : Nat} (h : PermIn a mid d1 d2) (h1 : Asc R d1 mid en) (h2 : Asc R d1 en b) (h3 : Crs lt R d1 mid en en b) (hme : mid ≤ en) : Mrg lt R d2 mid en b := by
  have e : ∀ t, mid ≤ t → d2[t]! = d1[t]! := fun t ht => h.2.1 t (Or.inr ht)
  refine ⟨fun i j hi hij hj => ?_, fun i j hi hij hj => ?_, fun i j hi hi' hj hj' => ?_⟩
  · rw [e i hi, e j (by omega)]; exact h1 i j hi hij hj
  · rw [e i (by omega), e j (by omega)]; exact h2 i j hi hij hj
  · rw [e i hi, e j (by omega)]; exact h3 i j hi hi' hj hj'
theorem left_none {R : DepV → DepV → Prop} {d : Array DepV} {a s mid : Nat} (h : ¬ (a < s ∧ s < mid)) (h1 : a ≤ s) (h2 : s ≤ mid) (k1 : Asc R d a s) (k2 : Asc R d s mid) : Asc R d a mid := by
  by_cases e : a = s
  · subst e; exact k2
  · obtain rfl : s = mid := by omega
    exact k1
def SymC (blk cap : Nat) (d0 : Array DepV) (w0 : World) (N : Nat) : Prop := ∀ (a m b : Nat) (d : Array DepV) (w : World), b - a ≤ N → d0.size = d.size → SWD w0 blk d w → a < m → m < b → b ≤ d.size → Mrg (ltOf cfD) keyLt d a m b →
    Calls Tryz.prog 103 #[.slice (some ⟨blk, 0, none⟩) d0.size cap, .int .i64 a, .int .i64 m, .int .i64 b, .func (.func 42) #[] #[]] w fun e w' =>
      e = .returned (.tuple #[]) ∧ ∃ d', SWD w0 blk d' w' ∧ PermIn a b d d' ∧ Asc keyLt d' a b

set_option maxHeartbeats 64000000 in
set_option maxRecDepth 1000000 in
theorem symstep_any (blk cap N : Nat) (d0 : Array DepV) (w0 : World) (R : RowD w0 blk d0) (hsz : d0.size < 2305843009213693952) (ih : SymC blk cap d0 w0 N)
    (a m b : Nat) (d : Array DepV) (w : World) (hN : b - a ≤ N + 1) (hs : d0.size = d.size) (S : SWD w0 blk d w) (ham : a + 1 < m) (hmb : m + 1 < b) (hb : b ≤ d.size) (hM : Mrg (ltOf cfD) keyLt d a m b) :
    Calls Tryz.prog 103 #[.slice (some ⟨blk, 0, none⟩) d0.size cap, .int .i64 a, .int .i64 m, .int .i64 b, .func (.func 42) #[] #[]] w fun e w' =>
      e = .returned (.tuple #[]) ∧ ∃ d', SWD w0 blk d' w' ∧ PermIn a b d d' ∧ Asc keyLt d' a b := by
  have S0 : Aside (SWD w0 blk d w) := S
  have HM := Lib.hid hM
  have HIH : Hid (SymC blk cap d0 w0 N) := ih
  have HC := Lib.hid (cmpLaysD blk 0 d0.size w0)
  clear S hM ih
  have mixed : Tryz.prog.follows Departure.mixedOrders = true := by kernel_rfl
  have e0 : ((m : Int) - (a : Int) == 1) = false := beq_eq_false_iff_ne.2 (by omega)
  have e1 : ((b : Int) - (m : Int) == 1) = false := beq_eq_false_iff_ne.2 (by omega)
  obtain ⟨mid, hmid⟩ : ∃ mid, (a + b) / 2 = mid := ⟨_, rfl⟩
  have hmz : ((a : Int) + (b : Int)) / 2 = (mid : Int) := by rw [half_int, hmid]
  have hm1 : a + 1 < mid := by omega
  have hm2 : mid < b := by omega
  have HMD := Lib.hid hmid
  have hmi1 : mid ≤ (a + b) / 2 ∧ (a + b) / 2 ≤ mid := ⟨by omega, by omega⟩
  clear hmid
  replace ham : a < m := by omega
  replace hmb : m < b := by omega
  obtain ⟨nn, hnn⟩ : ∃ nn, mid + m = nn := ⟨_, rfl⟩
  have hnz : (mid : Int) + (m : Int) = (nn : Int) := by omega
  have hnn1 : nn ≤ mid + m ∧ mid + m ≤ nn := ⟨by omega, by omega⟩
  obtain ⟨pp, hpp⟩ : ∃ pp, mid + m - 1 = pp := ⟨_, rfl⟩
  have hpz : (nn : Int) - 1 = (pp : Int) := by omega
  have hpp1 : pp + 1 ≤ nn ∧ nn ≤ pp + 1 := ⟨by omega, by omega⟩
  clear hnn hpp
  have HHS := Lib.hid hs
  have hss1 : d0.size ≤ d.size ∧ d.size ≤ d0.size := ⟨by omega, by omega⟩
  clear hs
  by_cases hgt : mid < m
  · have hgz : ((mid : Int) < (m : Int)) := by omega
    have hgd : decide ((mid : Int) < (m : Int)) = true := decide_eq_true (by omega)
    obtain ⟨lo, hlo⟩ : ∃ lo, mid + m - b = lo := ⟨_, rfl⟩
    obtain ⟨hi, hhi⟩ : ∃ hi, mid = hi := ⟨_, rfl⟩
    have hloz : (nn : Int) - (b : Int) = (lo : Int) := by omega
    have hlo1 : lo + b ≤ nn ∧ nn ≤ lo + b := ⟨by omega, by omega⟩
    have hhi1 : hi ≤ mid ∧ mid ≤ hi := ⟨by omega, by omega⟩
    have HLO : Hid ((mid < m ∧ lo = mid + m - b ∧ hi = mid) ∨ (m ≤ mid ∧ lo = a ∧ hi = m)) := Or.inl ⟨by omega, by omega, by omega⟩
    clear hlo hhi
    go_enter Tryz.func103, Tryz.ntmps103
    go_wp2
    go_loopg [20, 21] (mid + m) (fun kx ss sr wr => ∃ (s r : Nat), ss = .int .i64 s ∧ sr = .int .i64 r ∧ r - s ≤ kx ∧ Aside (SWD w0 blk d wr) ∧ Hid (Srch (ltOf cfD) d (mid + m) lo hi s r))
    case atStart => exact ⟨lo, hi, by first | rfl | (congr 1; omega), by first | rfl | (congr 1; omega), by omega, S0, ⟨Nat.le_refl _, by omega, Nat.le_refl _, Or.inl rfl, Or.inl rfl⟩⟩
    case round =>
      clear S0
      obtain ⟨s, r, rfl, rfl, hkx, S1, HS⟩ := hrel
      have hlo1 : lo ≤ s := HS.out.1
      have hsr : s ≤ r := HS.out.2.1
      have hrh : r ≤ hi := HS.out.2.2.1
      by_cases hlt : s < r
      · obtain ⟨c, hc⟩ : ∃ c, (s + r) / 2 = c := ⟨_, rfl⟩
        have hcl := half_lt hlt
        rw [hc] at hcl
        have hcz : ((s : Int) + (r : Int)) / 2 = (c : Int) := by rw [half_int, hc]
        clear hc
        have hltz : (s : Int) < (r : Int) := by omega
        obtain ⟨q, hq⟩ : ∃ q, mid + m - 1 - c = q := ⟨_, rfl⟩
        have hqz : (pp : Int) - (c : Int) = (q : Int) := by omega
        obtain ⟨X, Y, HXY, lx0, lx1, ly0, ly1, hcc⟩ := swd_test S1.out R HHS.out HC.out q c (by omega) (by omega)
        have bq0 : (0 : Int) ≤ (q : Int) := by omega
        have rq : IntKind.i64.wrap (q : Int) = (q : Int) := by rw [IntKind.wrap_i64]; omega
        have rqc : IntKind.i64.wrap ((pp : Int) - (c : Int)) = (q : Int) := by rw [IntKind.wrap_i64]; omega
        have bq1 : (q : Int) < (d0.size : Int) := by omega
        have bc0 : (0 : Int) ≤ (c : Int) := by omega
        have bc1 : (c : Int) < (d0.size : Int) := by omega
        have HQ := Lib.hid hq
        clear hq
        by_cases hlv : cfD X Y < 0
        · have HN : Hid (Srch (ltOf cfD) d (mid + m) lo hi s c) := ⟨hlo1, by omega, by omega, HS.out.2.2.2.1, Or.inr (by rw [HQ.out, HXY.out.1, HXY.out.2]; exact decide_eq_true hlv)⟩
          have hd : decide (cfD X Y < 0) = true := decide_eq_true hlv
          go_wp2_with fail
          go_quiet_grown (first | (go_at_call 42; refine Calls.grown_of (hcc _ _)))
          have S2 : Aside (SWD w0 blk d (grow (wr.drewN nq) osq)) := S1.out.grown nq osq
          clear lx0 lx1 ly0 ly1 hcc S1
          generalize grow (wr.drewN nq) osq = w2 at S2 ⊢
          clear nq osq
          go_wp2
          go_roundg (c - s)
          case measure => omega
          case rel => exact ⟨s, c, rfl, rfl, Nat.le_refl _, S2, HN⟩
        · have HN : Hid (Srch (ltOf cfD) d (mid + m) lo hi (c + 1) r) := ⟨by omega, by omega, hrh, Or.inr (by rw [Nat.add_sub_cancel, HQ.out, HXY.out.1, HXY.out.2]; exact decide_eq_false hlv), HS.out.2.2.2.2⟩
          have hd : decide (cfD X Y < 0) = false := decide_eq_false hlv
          go_wp2_with fail
          go_quiet_grown (first | (go_at_call 42; refine Calls.grown_of (hcc _ _)))
          have S2 : Aside (SWD w0 blk d (grow (wr.drewN nq) osq)) := S1.out.grown nq osq
          clear lx0 lx1 ly0 ly1 hcc S1
          generalize grow (wr.drewN nq) osq = w2 at S2 ⊢
          clear nq osq
          go_wp2
          go_roundg (r - (c + 1))
          case measure => omega
          case rel => exact ⟨c + 1, r, by go_num, rfl, Nat.le_refl _, S2, HN⟩
      · obtain rfl : s = r := by omega
        have hii : ¬ ((s : Int) < (s : Int)) := by omega
        have HF := Lib.hid (HS.out.found HM.out ham hmb (by omega) (by omega) HMD.out.symm HLO.out)
        have fs1 : a ≤ s := HF.out.lo
        have fs2 : s ≤ m := HF.out.hi
        have fs3 : s ≤ mid := HF.out.hi2
        have fs4 : mid + m - s ≤ b := HF.out.en
        obtain ⟨en, hen⟩ : ∃ en, mid + m - s = en := ⟨_, rfl⟩
        have henz : (nn : Int) - (s : Int) = (en : Int) := by omega
        have HEN := Lib.hid hen
        have hen1 : en + s ≤ nn ∧ nn ≤ en + s := ⟨by omega, by omega⟩
        clear hen
        by_cases cro : s < m ∧ m < en
        · by_cases cle : a < s ∧ s < mid
          · by_cases cri : mid < en ∧ en < b
            · have hro1 : (s : Int) < (m : Int) := by omega
              have hro2 : (m : Int) < (en : Int) := by omega
              have hro3 : decide ((s : Int) < (m : Int)) = true := decide_eq_true (by omega)
              have hro4 : decide ((m : Int) < (en : Int)) = true := decide_eq_true (by omega)
              have hle1 : (a : Int) < (s : Int) := by omega
              have hle2 : (s : Int) < (mid : Int) := by omega
              have hle3 : decide ((a : Int) < (s : Int)) = true := decide_eq_true (by omega)
              have hle4 : decide ((s : Int) < (mid : Int)) = true := decide_eq_true (by omega)
              have hri1 : (mid : Int) < (en : Int) := by omega
              have hri2 : (en : Int) < (b : Int) := by omega
              have hri3 : decide ((mid : Int) < (en : Int)) = true := decide_eq_true (by omega)
              have hri4 : decide ((en : Int) < (b : Int)) = true := decide_eq_true (by omega)
              have HSD := Lib.hid S1.out
              clear S1
              have HRO := Lib.hid (rotate_any #[] blk cap s m en d0 d w0 wr R HHS.out HSD.out (by omega) (by omega) (by omega) (by omega))
              rw [← HHS.out] at HRO
              go_wp2_with (first
                | (go_at_call 114; refine HRO.out.mono ?_; rintro e w1 ⟨rfl, d1, hs1, hr1, hp1⟩; have HS1 := Lib.hid hs1; have HR1 := Lib.hid hr1; have HP1 := Lib.hid hp1; have HZ1 : Hid (d0.size = d1.size) := HHS.out.trans hp1.1.symm; have hz1 : d0.size ≤ d1.size := Nat.le_of_eq HZ1.out; have HH := Lib.hid (found_halves keyLt_trans HM.out (by omega) (by omega) HF.out (HEN.out.symm ▸ hr1)); rw [HEN.out] at HH; clear hs1 hr1 hp1)
                | (go_at_call_of 103 (Value.int .i64 (a : Int)); refine (HIH.out a s mid d1 w1 (by omega) HZ1.out HS1.out (by omega) (by omega) (by omega) ⟨HH.out.1, HH.out.2.1, HH.out.2.2.2.2.1⟩).mono ?_; rintro e w2 ⟨rfl, d2, hs2, hp2, ha2⟩; have HS2 := Lib.hid hs2; have HP2 := Lib.hid hp2; have HA2 := Lib.hid ha2; have HZ2 : Hid (d0.size = d2.size) := HZ1.out.trans hp2.1.symm; have hz2 : d0.size ≤ d2.size := Nat.le_of_eq HZ2.out; clear hs2 hp2 ha2)
                | (go_at_call_of 103 (Value.int .i64 (b : Int)); refine (HIH.out mid en b d2 w2 (by omega) HZ2.out HS2.out (by omega) (by omega) (by omega) (Mrg.after HP2.out HH.out.2.2.1 HH.out.2.2.2.1 HH.out.2.2.2.2.2.1 (by omega))).mono ?_; rintro e w3 ⟨rfl, d3, hs3, hp3, ha3⟩))
              all_goals
                go_end0
                have hfin := halves_done HP2.out hp3 (by omega) (by omega) (by omega) HA2.out ha3 HH.out.2.2.2.2.2.2
                exact ⟨rfl, d3, hs3, permIn_trans _ _ _ _ _ (permIn_mono _ _ _ _ _ _ (by omega) (by omega) (by omega) HP1.out) hfin.1, hfin.2⟩
            · have hro1 : (s : Int) < (m : Int) := by omega
              have hro2 : (m : Int) < (en : Int) := by omega
              have hro3 : decide ((s : Int) < (m : Int)) = true := decide_eq_true (by omega)
              have hro4 : decide ((m : Int) < (en : Int)) = true := decide_eq_true (by omega)
              have hle1 : (a : Int) < (s : Int) := by omega
              have hle2 : (s : Int) < (mid : Int) := by omega
              have hle3 : decide ((a : Int) < (s : Int)) = true := decide_eq_true (by omega)
              have hle4 : decide ((s : Int) < (mid : Int)) = true := decide_eq_true (by omega)
              have hri5 : ((decide ((mid : Int) < (en : Int))) && (decide ((en : Int) < (b : Int)))) = false := by rw [Bool.and_eq_false_iff, decide_eq_false_iff_not, decide_eq_false_iff_not]; omega
              have HSD := Lib.hid S1.out
              clear S1
              have HRO := Lib.hid (rotate_any #[] blk cap s m en d0 d w0 wr R HHS.out HSD.out (by omega) (by omega) (by omega) (by omega))
              rw [← HHS.out] at HRO
              go_wp2_with (first
                | (go_at_call 114; refine HRO.out.mono ?_; rintro e w1 ⟨rfl, d1, hs1, hr1, hp1⟩; have HS1 := Lib.hid hs1; have HR1 := Lib.hid hr1; have HP1 := Lib.hid hp1; have HZ1 : Hid (d0.size = d1.size) := HHS.out.trans hp1.1.symm; have hz1 : d0.size ≤ d1.size := Nat.le_of_eq HZ1.out; have HH := Lib.hid (found_halves keyLt_trans HM.out (by omega) (by omega) HF.out (HEN.out.symm ▸ hr1)); rw [HEN.out] at HH; clear hs1 hr1 hp1)
                | (go_at_call_of 103 (Value.int .i64 (a : Int)); refine (HIH.out a s mid d1 w1 (by omega) HZ1.out HS1.out (by omega) (by omega) (by omega) ⟨HH.out.1, HH.out.2.1, HH.out.2.2.2.2.1⟩).mono ?_; rintro e w2 ⟨rfl, d2, hs2, hp2, ha2⟩; have HS2 := Lib.hid hs2; have HP2 := Lib.hid hp2; have HA2 := Lib.hid ha2; have HZ2 : Hid (d0.size = d2.size) := HZ1.out.trans hp2.1.symm; have hz2 : d0.size ≤ d2.size := Nat.le_of_eq HZ2.out; clear hs2 hp2 ha2))
              all_goals
                have hp3 : PermIn mid b d2 d2 := permIn_refl _ _ _
                have hs3 := HS2.out
                have ha3 : Asc keyLt d2 mid b := left_none (by omega) (by omega) (by omega) (Mrg.after HP2.out HH.out.2.2.1 HH.out.2.2.2.1 HH.out.2.2.2.2.2.1 (by omega)).1 (Mrg.after HP2.out HH.out.2.2.1 HH.out.2.2.2.1 HH.out.2.2.2.2.2.1 (by omega)).2.1
                go_end0
                have hfin := halves_done HP2.out hp3 (by omega) (by omega) (by omega) HA2.out ha3 HH.out.2.2.2.2.2.2
                exact ⟨rfl, d2, hs3, permIn_trans _ _ _ _ _ (permIn_mono _ _ _ _ _ _ (by omega) (by omega) (by omega) HP1.out) hfin.1, hfin.2⟩
          · by_cases cri : mid < en ∧ en < b
            · have hro1 : (s : Int) < (m : Int) := by omega
              have hro2 : (m : Int) < (en : Int) := by omega
              have hro3 : decide ((s : Int) < (m : Int)) = true := decide_eq_true (by omega)
              have hro4 : decide ((m : Int) < (en : Int)) = true := decide_eq_true (by omega)
              have hle5 : ((decide ((a : Int) < (s : Int))) && (decide ((s : Int) < (mid : Int)))) = false := by rw [Bool.and_eq_false_iff, decide_eq_false_iff_not, decide_eq_false_iff_not]; omega
              have hri1 : (mid : Int) < (en : Int) := by omega
              have hri2 : (en : Int) < (b : Int) := by omega
              have hri3 : decide ((mid : Int) < (en : Int)) = true := decide_eq_true (by omega)
              have hri4 : decide ((en : Int) < (b : Int)) = true := decide_eq_true (by omega)
              have HSD := Lib.hid S1.out
              clear S1
              have HRO := Lib.hid (rotate_any #[] blk cap s m en d0 d w0 wr R HHS.out HSD.out (by omega) (by omega) (by omega) (by omega))
              rw [← HHS.out] at HRO
              go_wp2_with (first
                | (go_at_call 114; refine HRO.out.mono ?_; rintro e w1 ⟨rfl, d1, hs1, hr1, hp1⟩; have HS1 := Lib.hid hs1; have HR1 := Lib.hid hr1; have HP1 := Lib.hid hp1; have HZ1 : Hid (d0.size = d1.size) := HHS.out.trans hp1.1.symm; have hz1 : d0.size ≤ d1.size := Nat.le_of_eq HZ1.out; have HH := Lib.hid (found_halves keyLt_trans HM.out (by omega) (by omega) HF.out (HEN.out.symm ▸ hr1)); rw [HEN.out] at HH; clear hs1 hr1 hp1; have HP2 : Hid (PermIn a mid d1 d1) := permIn_refl _ _ _; have HA2 : Hid (Asc keyLt d1 a mid) := left_none (by omega) (by omega) (by omega) HH.out.1 HH.out.2.1; have HS2 := HS1; have HZ2 := HZ1)
                | (go_at_call_of 103 (Value.int .i64 (b : Int)); refine (HIH.out mid en b d1 w1 (by omega) HZ2.out HS2.out (by omega) (by omega) (by omega) (Mrg.after HP2.out HH.out.2.2.1 HH.out.2.2.2.1 HH.out.2.2.2.2.2.1 (by omega))).mono ?_; rintro e w3 ⟨rfl, d3, hs3, hp3, ha3⟩))
              all_goals
                go_end0
                have hfin := halves_done HP2.out hp3 (by omega) (by omega) (by omega) HA2.out ha3 HH.out.2.2.2.2.2.2
                exact ⟨rfl, d3, hs3, permIn_trans _ _ _ _ _ (permIn_mono _ _ _ _ _ _ (by omega) (by omega) (by omega) HP1.out) hfin.1, hfin.2⟩
            · have hro1 : (s : Int) < (m : Int) := by omega
              have hro2 : (m : Int) < (en : Int) := by omega
              have hro3 : decide ((s : Int) < (m : Int)) = true := decide_eq_true (by omega)
              have hro4 : decide ((m : Int) < (en : Int)) = true := decide_eq_true (by omega)
              have hle5 : ((decide ((a : Int) < (s : Int))) && (decide ((s : Int) < (mid : Int)))) = false := by rw [Bool.and_eq_false_iff, decide_eq_false_iff_not, decide_eq_false_iff_not]; omega
              have hri5 : ((decide ((mid : Int) < (en : Int))) && (decide ((en : Int) < (b : Int)))) = false := by rw [Bool.and_eq_false_iff, decide_eq_false_iff_not, decide_eq_false_iff_not]; omega
              have HSD := Lib.hid S1.out
              clear S1
              have HRO := Lib.hid (rotate_any #[] blk cap s m en d0 d w0 wr R HHS.out HSD.out (by omega) (by omega) (by omega) (by omega))
              rw [← HHS.out] at HRO
              go_wp2_with (first
                | (go_at_call 114; refine HRO.out.mono ?_; rintro e w1 ⟨rfl, d1, hs1, hr1, hp1⟩; have HS1 := Lib.hid hs1; have HR1 := Lib.hid hr1; have HP1 := Lib.hid hp1; have HZ1 : Hid (d0.size = d1.size) := HHS.out.trans hp1.1.symm; have hz1 : d0.size ≤ d1.size := Nat.le_of_eq HZ1.out; have HH := Lib.hid (found_halves keyLt_trans HM.out (by omega) (by omega) HF.out (HEN.out.symm ▸ hr1)); rw [HEN.out] at HH; clear hs1 hr1 hp1; have HP2 : Hid (PermIn a mid d1 d1) := permIn_refl _ _ _; have HA2 : Hid (Asc keyLt d1 a mid) := left_none (by omega) (by omega) (by omega) HH.out.1 HH.out.2.1; have HS2 := HS1; have HZ2 := HZ1))
              all_goals
                have hp3 : PermIn mid b d1 d1 := permIn_refl _ _ _
                have hs3 := HS2.out
                have ha3 : Asc keyLt d1 mid b := left_none (by omega) (by omega) (by omega) (Mrg.after HP2.out HH.out.2.2.1 HH.out.2.2.2.1 HH.out.2.2.2.2.2.1 (by omega)).1 (Mrg.after HP2.out HH.out.2.2.1 HH.out.2.2.2.1 HH.out.2.2.2.2.2.1 (by omega)).2.1
                go_end0
                have hfin := halves_done HP2.out hp3 (by omega) (by omega) (by omega) HA2.out ha3 HH.out.2.2.2.2.2.2
                exact ⟨rfl, d1, hs3, permIn_trans _ _ _ _ _ (permIn_mono _ _ _ _ _ _ (by omega) (by omega) (by omega) HP1.out) hfin.1, hfin.2⟩
        · by_cases cle : a < s ∧ s < mid
          · by_cases cri : mid < en ∧ en < b
            · have hro5 : ((decide ((s : Int) < (m : Int))) && (decide ((m : Int) < (en : Int)))) = false := by rw [Bool.and_eq_false_iff, decide_eq_false_iff_not, decide_eq_false_iff_not]; omega
              have hle1 : (a : Int) < (s : Int) := by omega
              have hle2 : (s : Int) < (mid : Int) := by omega
              have hle3 : decide ((a : Int) < (s : Int)) = true := decide_eq_true (by omega)
              have hle4 : decide ((s : Int) < (mid : Int)) = true := decide_eq_true (by omega)
              have hri1 : (mid : Int) < (en : Int) := by omega
              have hri2 : (en : Int) < (b : Int) := by omega
              have hri3 : decide ((mid : Int) < (en : Int)) = true := decide_eq_true (by omega)
              have hri4 : decide ((en : Int) < (b : Int)) = true := decide_eq_true (by omega)
              have HSD := Lib.hid S1.out
              clear S1
              have HR1 : Hid (RotP d d s m en) := rot_none (by omega) (by omega) (by omega)
              have HP1 : Hid (PermIn s en d d) := permIn_refl _ _ _
              have HS1 := HSD
              have HZ1 := HHS
              have HH := Lib.hid (found_halves keyLt_trans HM.out (by omega) (by omega) HF.out (HEN.out.symm ▸ HR1.out))
              rw [HEN.out] at HH
              go_wp2_with (first
                | (go_at_call_of 103 (Value.int .i64 (a : Int)); refine (HIH.out a s mid d wr (by omega) HZ1.out HS1.out (by omega) (by omega) (by omega) ⟨HH.out.1, HH.out.2.1, HH.out.2.2.2.2.1⟩).mono ?_; rintro e w2 ⟨rfl, d2, hs2, hp2, ha2⟩; have HS2 := Lib.hid hs2; have HP2 := Lib.hid hp2; have HA2 := Lib.hid ha2; have HZ2 : Hid (d0.size = d2.size) := HZ1.out.trans hp2.1.symm; have hz2 : d0.size ≤ d2.size := Nat.le_of_eq HZ2.out; clear hs2 hp2 ha2)
                | (go_at_call_of 103 (Value.int .i64 (b : Int)); refine (HIH.out mid en b d2 w2 (by omega) HZ2.out HS2.out (by omega) (by omega) (by omega) (Mrg.after HP2.out HH.out.2.2.1 HH.out.2.2.2.1 HH.out.2.2.2.2.2.1 (by omega))).mono ?_; rintro e w3 ⟨rfl, d3, hs3, hp3, ha3⟩))
              all_goals
                go_end0
                have hfin := halves_done HP2.out hp3 (by omega) (by omega) (by omega) HA2.out ha3 HH.out.2.2.2.2.2.2
                exact ⟨rfl, d3, hs3, permIn_trans _ _ _ _ _ (permIn_mono _ _ _ _ _ _ (by omega) (by omega) (by omega) HP1.out) hfin.1, hfin.2⟩
            · have hro5 : ((decide ((s : Int) < (m : Int))) && (decide ((m : Int) < (en : Int)))) = false := by rw [Bool.and_eq_false_iff, decide_eq_false_iff_not, decide_eq_false_iff_not]; omega
              have hle1 : (a : Int) < (s : Int) := by omega
              have hle2 : (s : Int) < (mid : Int) := by omega
              have hle3 : decide ((a : Int) < (s : Int)) = true := decide_eq_true (by omega)
              have hle4 : decide ((s : Int) < (mid : Int)) = true := decide_eq_true (by omega)
              have hri5 : ((decide ((mid : Int) < (en : Int))) && (decide ((en : Int) < (b : Int)))) = false := by rw [Bool.and_eq_false_iff, decide_eq_false_iff_not, decide_eq_false_iff_not]; omega
              have HSD := Lib.hid S1.out
              clear S1
              have HR1 : Hid (RotP d d s m en) := rot_none (by omega) (by omega) (by omega)
              have HP1 : Hid (PermIn s en d d) := permIn_refl _ _ _
              have HS1 := HSD
              have HZ1 := HHS
              have HH := Lib.hid (found_halves keyLt_trans HM.out (by omega) (by omega) HF.out (HEN.out.symm ▸ HR1.out))
              rw [HEN.out] at HH
              go_wp2_with (first
                | (go_at_call_of 103 (Value.int .i64 (a : Int)); refine (HIH.out a s mid d wr (by omega) HZ1.out HS1.out (by omega) (by omega) (by omega) ⟨HH.out.1, HH.out.2.1, HH.out.2.2.2.2.1⟩).mono ?_; rintro e w2 ⟨rfl, d2, hs2, hp2, ha2⟩; have HS2 := Lib.hid hs2; have HP2 := Lib.hid hp2; have HA2 := Lib.hid ha2; have HZ2 : Hid (d0.size = d2.size) := HZ1.out.trans hp2.1.symm; have hz2 : d0.size ≤ d2.size := Nat.le_of_eq HZ2.out; clear hs2 hp2 ha2))
              all_goals
                have hp3 : PermIn mid b d2 d2 := permIn_refl _ _ _
                have hs3 := HS2.out
                have ha3 : Asc keyLt d2 mid b := left_none (by omega) (by omega) (by omega) (Mrg.after HP2.out HH.out.2.2.1 HH.out.2.2.2.1 HH.out.2.2.2.2.2.1 (by omega)).1 (Mrg.after HP2.out HH.out.2.2.1 HH.out.2.2.2.1 HH.out.2.2.2.2.2.1 (by omega)).2.1
                go_end0
                have hfin := halves_done HP2.out hp3 (by omega) (by omega) (by omega) HA2.out ha3 HH.out.2.2.2.2.2.2
                exact ⟨rfl, d2, hs3, permIn_trans _ _ _ _ _ (permIn_mono _ _ _ _ _ _ (by omega) (by omega) (by omega) HP1.out) hfin.1, hfin.2⟩
          · by_cases cri : mid < en ∧ en < b
            · have hro5 : ((decide ((s : Int) < (m : Int))) && (decide ((m : Int) < (en : Int)))) = false := by rw [Bool.and_eq_false_iff, decide_eq_false_iff_not, decide_eq_false_iff_not]; omega
              have hle5 : ((decide ((a : Int) < (s : Int))) && (decide ((s : Int) < (mid : Int)))) = false := by rw [Bool.and_eq_false_iff, decide_eq_false_iff_not, decide_eq_false_iff_not]; omega
              have hri1 : (mid : Int) < (en : Int) := by omega
              have hri2 : (en : Int) < (b : Int) := by omega
              have hri3 : decide ((mid : Int) < (en : Int)) = true := decide_eq_true (by omega)
              have hri4 : decide ((en : Int) < (b : Int)) = true := decide_eq_true (by omega)
              have HSD := Lib.hid S1.out
              clear S1
              have HR1 : Hid (RotP d d s m en) := rot_none (by omega) (by omega) (by omega)
              have HP1 : Hid (PermIn s en d d) := permIn_refl _ _ _
              have HS1 := HSD
              have HZ1 := HHS
              have HH := Lib.hid (found_halves keyLt_trans HM.out (by omega) (by omega) HF.out (HEN.out.symm ▸ HR1.out))
              rw [HEN.out] at HH
              have HP2 : Hid (PermIn a mid d d) := permIn_refl _ _ _
              have HA2 : Hid (Asc keyLt d a mid) := left_none (by omega) (by omega) (by omega) HH.out.1 HH.out.2.1
              have HS2 := HS1
              have HZ2 := HZ1
              go_wp2_with (first
                | (go_at_call_of 103 (Value.int .i64 (b : Int)); refine (HIH.out mid en b d wr (by omega) HZ2.out HS2.out (by omega) (by omega) (by omega) (Mrg.after HP2.out HH.out.2.2.1 HH.out.2.2.2.1 HH.out.2.2.2.2.2.1 (by omega))).mono ?_; rintro e w3 ⟨rfl, d3, hs3, hp3, ha3⟩))
              all_goals
                go_end0
                have hfin := halves_done HP2.out hp3 (by omega) (by omega) (by omega) HA2.out ha3 HH.out.2.2.2.2.2.2
                exact ⟨rfl, d3, hs3, permIn_trans _ _ _ _ _ (permIn_mono _ _ _ _ _ _ (by omega) (by omega) (by omega) HP1.out) hfin.1, hfin.2⟩
            · have hro5 : ((decide ((s : Int) < (m : Int))) && (decide ((m : Int) < (en : Int)))) = false := by rw [Bool.and_eq_false_iff, decide_eq_false_iff_not, decide_eq_false_iff_not]; omega
              have hle5 : ((decide ((a : Int) < (s : Int))) && (decide ((s : Int) < (mid : Int)))) = false := by rw [Bool.and_eq_false_iff, decide_eq_false_iff_not, decide_eq_false_iff_not]; omega
              have hri5 : ((decide ((mid : Int) < (en : Int))) && (decide ((en : Int) < (b : Int)))) = false := by rw [Bool.and_eq_false_iff, decide_eq_false_iff_not, decide_eq_false_iff_not]; omega
              have HSD := Lib.hid S1.out
              clear S1
              have HR1 : Hid (RotP d d s m en) := rot_none (by omega) (by omega) (by omega)
              have HP1 : Hid (PermIn s en d d) := permIn_refl _ _ _
              have HS1 := HSD
              have HZ1 := HHS
              have HH := Lib.hid (found_halves keyLt_trans HM.out (by omega) (by omega) HF.out (HEN.out.symm ▸ HR1.out))
              rw [HEN.out] at HH
              have HP2 : Hid (PermIn a mid d d) := permIn_refl _ _ _
              have HA2 : Hid (Asc keyLt d a mid) := left_none (by omega) (by omega) (by omega) HH.out.1 HH.out.2.1
              have HS2 := HS1
              have HZ2 := HZ1
              go_wp2
              all_goals
                have hp3 : PermIn mid b d d := permIn_refl _ _ _
                have hs3 := HS2.out
                have ha3 : Asc keyLt d mid b := left_none (by omega) (by omega) (by omega) (Mrg.after HP2.out HH.out.2.2.1 HH.out.2.2.2.1 HH.out.2.2.2.2.2.1 (by omega)).1 (Mrg.after HP2.out HH.out.2.2.1 HH.out.2.2.2.1 HH.out.2.2.2.2.2.1 (by omega)).2.1
                go_end0
                have hfin := halves_done HP2.out hp3 (by omega) (by omega) (by omega) HA2.out ha3 HH.out.2.2.2.2.2.2
                exact ⟨rfl, d, hs3, permIn_trans _ _ _ _ _ (permIn_mono _ _ _ _ _ _ (by omega) (by omega) (by omega) HP1.out) hfin.1, hfin.2⟩
  · have hgz : ¬ ((mid : Int) < (m : Int)) := by omega
    have hgd : decide ((mid : Int) < (m : Int)) = false := decide_eq_false (by omega)
    obtain ⟨lo, hlo⟩ : ∃ lo, a = lo := ⟨_, rfl⟩
    obtain ⟨hi, hhi⟩ : ∃ hi, m = hi := ⟨_, rfl⟩
    have hlo1 : lo ≤ a ∧ a ≤ lo := ⟨by omega, by omega⟩
    have hhi1 : hi ≤ m ∧ m ≤ hi := ⟨by omega, by omega⟩
    have HLO : Hid ((mid < m ∧ lo = mid + m - b ∧ hi = mid) ∨ (m ≤ mid ∧ lo = a ∧ hi = m)) := Or.inr ⟨by omega, by omega, by omega⟩
    clear hlo hhi
    go_enter Tryz.func103, Tryz.ntmps103
    go_wp2
    go_loopg [20, 21] (mid + m) (fun kx ss sr wr => ∃ (s r : Nat), ss = .int .i64 s ∧ sr = .int .i64 r ∧ r - s ≤ kx ∧ Aside (SWD w0 blk d wr) ∧ Hid (Srch (ltOf cfD) d (mid + m) lo hi s r))
    case atStart => exact ⟨lo, hi, by first | rfl | (congr 1; omega), by first | rfl | (congr 1; omega), by omega, S0, ⟨Nat.le_refl _, by omega, Nat.le_refl _, Or.inl rfl, Or.inl rfl⟩⟩
    case round =>
      clear S0
      obtain ⟨s, r, rfl, rfl, hkx, S1, HS⟩ := hrel
      have hlo1 : lo ≤ s := HS.out.1
      have hsr : s ≤ r := HS.out.2.1
      have hrh : r ≤ hi := HS.out.2.2.1
      by_cases hlt : s < r
      · obtain ⟨c, hc⟩ : ∃ c, (s + r) / 2 = c := ⟨_, rfl⟩
        have hcl := half_lt hlt
        rw [hc] at hcl
        have hcz : ((s : Int) + (r : Int)) / 2 = (c : Int) := by rw [half_int, hc]
        clear hc
        have hltz : (s : Int) < (r : Int) := by omega
        obtain ⟨q, hq⟩ : ∃ q, mid + m - 1 - c = q := ⟨_, rfl⟩
        have hqz : (pp : Int) - (c : Int) = (q : Int) := by omega
        obtain ⟨X, Y, HXY, lx0, lx1, ly0, ly1, hcc⟩ := swd_test S1.out R HHS.out HC.out q c (by omega) (by omega)
        have bq0 : (0 : Int) ≤ (q : Int) := by omega
        have rq : IntKind.i64.wrap (q : Int) = (q : Int) := by rw [IntKind.wrap_i64]; omega
        have rqc : IntKind.i64.wrap ((pp : Int) - (c : Int)) = (q : Int) := by rw [IntKind.wrap_i64]; omega
        have bq1 : (q : Int) < (d0.size : Int) := by omega
        have bc0 : (0 : Int) ≤ (c : Int) := by omega
        have bc1 : (c : Int) < (d0.size : Int) := by omega
        have HQ := Lib.hid hq
        clear hq
        by_cases hlv : cfD X Y < 0
        · have HN : Hid (Srch (ltOf cfD) d (mid + m) lo hi s c) := ⟨hlo1, by omega, by omega, HS.out.2.2.2.1, Or.inr (by rw [HQ.out, HXY.out.1, HXY.out.2]; exact decide_eq_true hlv)⟩
          have hd : decide (cfD X Y < 0) = true := decide_eq_true hlv
          go_wp2_with fail
          go_quiet_grown (first | (go_at_call 42; refine Calls.grown_of (hcc _ _)))
          have S2 : Aside (SWD w0 blk d (grow (wr.drewN nq) osq)) := S1.out.grown nq osq
          clear lx0 lx1 ly0 ly1 hcc S1
          generalize grow (wr.drewN nq) osq = w2 at S2 ⊢
          clear nq osq
          go_wp2
          go_roundg (c - s)
          case measure => omega
          case rel => exact ⟨s, c, rfl, rfl, Nat.le_refl _, S2, HN⟩
        · have HN : Hid (Srch (ltOf cfD) d (mid + m) lo hi (c + 1) r) := ⟨by omega, by omega, hrh, Or.inr (by rw [Nat.add_sub_cancel, HQ.out, HXY.out.1, HXY.out.2]; exact decide_eq_false hlv), HS.out.2.2.2.2⟩
          have hd : decide (cfD X Y < 0) = false := decide_eq_false hlv
          go_wp2_with fail
          go_quiet_grown (first | (go_at_call 42; refine Calls.grown_of (hcc _ _)))
          have S2 : Aside (SWD w0 blk d (grow (wr.drewN nq) osq)) := S1.out.grown nq osq
          clear lx0 lx1 ly0 ly1 hcc S1
          generalize grow (wr.drewN nq) osq = w2 at S2 ⊢
          clear nq osq
          go_wp2
          go_roundg (r - (c + 1))
          case measure => omega
          case rel => exact ⟨c + 1, r, by go_num, rfl, Nat.le_refl _, S2, HN⟩
      · obtain rfl : s = r := by omega
        have hii : ¬ ((s : Int) < (s : Int)) := by omega
        have HF := Lib.hid (HS.out.found HM.out ham hmb (by omega) (by omega) HMD.out.symm HLO.out)
        have fs1 : a ≤ s := HF.out.lo
        have fs2 : s ≤ m := HF.out.hi
        have fs3 : s ≤ mid := HF.out.hi2
        have fs4 : mid + m - s ≤ b := HF.out.en
        obtain ⟨en, hen⟩ : ∃ en, mid + m - s = en := ⟨_, rfl⟩
        have henz : (nn : Int) - (s : Int) = (en : Int) := by omega
        have HEN := Lib.hid hen
        have hen1 : en + s ≤ nn ∧ nn ≤ en + s := ⟨by omega, by omega⟩
        clear hen
        by_cases cro : s < m ∧ m < en
        · by_cases cle : a < s ∧ s < mid
          · by_cases cri : mid < en ∧ en < b
            · have hro1 : (s : Int) < (m : Int) := by omega
              have hro2 : (m : Int) < (en : Int) := by omega
              have hro3 : decide ((s : Int) < (m : Int)) = true := decide_eq_true (by omega)
              have hro4 : decide ((m : Int) < (en : Int)) = true := decide_eq_true (by omega)
              have hle1 : (a : Int) < (s : Int) := by omega
              have hle2 : (s : Int) < (mid : Int) := by omega
              have hle3 : decide ((a : Int) < (s : Int)) = true := decide_eq_true (by omega)
              have hle4 : decide ((s : Int) < (mid : Int)) = true := decide_eq_true (by omega)
              have hri1 : (mid : Int) < (en : Int) := by omega
              have hri2 : (en : Int) < (b : Int) := by omega
              have hri3 : decide ((mid : Int) < (en : Int)) = true := decide_eq_true (by omega)
              have hri4 : decide ((en : Int) < (b : Int)) = true := decide_eq_true (by omega)
              have HSD := Lib.hid S1.out
              clear S1
              have HRO := Lib.hid (rotate_any #[] blk cap s m en d0 d w0 wr R HHS.out HSD.out (by omega) (by omega) (by omega) (by omega))
              rw [← HHS.out] at HRO
              go_wp2_with (first
                | (go_at_call 114; refine HRO.out.mono ?_; rintro e w1 ⟨rfl, d1, hs1, hr1, hp1⟩; have HS1 := Lib.hid hs1; have HR1 := Lib.hid hr1; have HP1 := Lib.hid hp1; have HZ1 : Hid (d0.size = d1.size) := HHS.out.trans hp1.1.symm; have hz1 : d0.size ≤ d1.size := Nat.le_of_eq HZ1.out; have HH := Lib.hid (found_halves keyLt_trans HM.out (by omega) (by omega) HF.out (HEN.out.symm ▸ hr1)); rw [HEN.out] at HH; clear hs1 hr1 hp1)
                | (go_at_call_of 103 (Value.int .i64 (a : Int)); refine (HIH.out a s mid d1 w1 (by omega) HZ1.out HS1.out (by omega) (by omega) (by omega) ⟨HH.out.1, HH.out.2.1, HH.out.2.2.2.2.1⟩).mono ?_; rintro e w2 ⟨rfl, d2, hs2, hp2, ha2⟩; have HS2 := Lib.hid hs2; have HP2 := Lib.hid hp2; have HA2 := Lib.hid ha2; have HZ2 : Hid (d0.size = d2.size) := HZ1.out.trans hp2.1.symm; have hz2 : d0.size ≤ d2.size := Nat.le_of_eq HZ2.out; clear hs2 hp2 ha2)
                | (go_at_call_of 103 (Value.int .i64 (b : Int)); refine (HIH.out mid en b d2 w2 (by omega) HZ2.out HS2.out (by omega) (by omega) (by omega) (Mrg.after HP2.out HH.out.2.2.1 HH.out.2.2.2.1 HH.out.2.2.2.2.2.1 (by omega))).mono ?_; rintro e w3 ⟨rfl, d3, hs3, hp3, ha3⟩))
              all_goals
                go_end0
                have hfin := halves_done HP2.out hp3 (by omega) (by omega) (by omega) HA2.out ha3 HH.out.2.2.2.2.2.2
                exact ⟨rfl, d3, hs3, permIn_trans _ _ _ _ _ (permIn_mono _ _ _ _ _ _ (by omega) (by omega) (by omega) HP1.out) hfin.1, hfin.2⟩
            · have hro1 : (s : Int) < (m : Int) := by omega
              have hro2 : (m : Int) < (en : Int) := by omega
              have hro3 : decide ((s : Int) < (m : Int)) = true := decide_eq_true (by omega)
              have hro4 : decide ((m : Int) < (en : Int)) = true := decide_eq_true (by omega)
              have hle1 : (a : Int) < (s : Int) := by omega
              have hle2 : (s : Int) < (mid : Int) := by omega
              have hle3 : decide ((a : Int) < (s : Int)) = true := decide_eq_true (by omega)
              have hle4 : decide ((s : Int) < (mid : Int)) = true := decide_eq_true (by omega)
              have hri5 : ((decide ((mid : Int) < (en : Int))) && (decide ((en : Int) < (b : Int)))) = false := by rw [Bool.and_eq_false_iff, decide_eq_false_iff_not, decide_eq_false_iff_not]; omega
              have HSD := Lib.hid S1.out
              clear S1
              have HRO := Lib.hid (rotate_any #[] blk cap s m en d0 d w0 wr R HHS.out HSD.out (by omega) (by omega) (by omega) (by omega))
              rw [← HHS.out] at HRO
              go_wp2_with (first
                | (go_at_call 114; refine HRO.out.mono ?_; rintro e w1 ⟨rfl, d1, hs1, hr1, hp1⟩; have HS1 := Lib.hid hs1; have HR1 := Lib.hid hr1; have HP1 := Lib.hid hp1; have HZ1 : Hid (d0.size = d1.size) := HHS.out.trans hp1.1.symm; have hz1 : d0.size ≤ d1.size := Nat.le_of_eq HZ1.out; have HH := Lib.hid (found_halves keyLt_trans HM.out (by omega) (by omega) HF.out (HEN.out.symm ▸ hr1)); rw [HEN.out] at HH; clear hs1 hr1 hp1)
                | (go_at_call_of 103 (Value.int .i64 (a : Int)); refine (HIH.out a s mid d1 w1 (by omega) HZ1.out HS1.out (by omega) (by omega) (by omega) ⟨HH.out.1, HH.out.2.1, HH.out.2.2.2.2.1⟩).mono ?_; rintro e w2 ⟨rfl, d2, hs2, hp2, ha2⟩; have HS2 := Lib.hid hs2; have HP2 := Lib.hid hp2; have HA2 := Lib.hid ha2; have HZ2 : Hid (d0.size = d2.size) := HZ1.out.trans hp2.1.symm; have hz2 : d0.size ≤ d2.size := Nat.le_of_eq HZ2.out; clear hs2 hp2 ha2))
              all_goals
                have hp3 : PermIn mid b d2 d2 := permIn_refl _ _ _
                have hs3 := HS2.out
                have ha3 : Asc keyLt d2 mid b := left_none (by omega) (by omega) (by omega) (Mrg.after HP2.out HH.out.2.2.1 HH.out.2.2.2.1 HH.out.2.2.2.2.2.1 (by omega)).1 (Mrg.after HP2.out HH.out.2.2.1 HH.out.2.2.2.1 HH.out.2.2.2.2.2.1 (by omega)).2.1
                go_end0
                have hfin := halves_done HP2.out hp3 (by omega) (by omega) (by omega) HA2.out ha3 HH.out.2.2.2.2.2.2
                exact ⟨rfl, d2, hs3, permIn_trans _ _ _ _ _ (permIn_mono _ _ _ _ _ _ (by omega) (by omega) (by omega) HP1.out) hfin.1, hfin.2⟩
          · by_cases cri : mid < en ∧ en < b
            · have hro1 : (s : Int) < (m : Int) := by omega
              have hro2 : (m : Int) < (en : Int) := by omega
              have hro3 : decide ((s : Int) < (m : Int)) = true := decide_eq_true (by omega)
              have hro4 : decide ((m : Int) < (en : Int)) = true := decide_eq_true (by omega)
              have hle5 : ((decide ((a : Int) < (s : Int))) && (decide ((s : Int) < (mid : Int)))) = false := by rw [Bool.and_eq_false_iff, decide_eq_false_iff_not, decide_eq_false_iff_not]; omega
              have hri1 : (mid : Int) < (en : Int) := by omega
              have hri2 : (en : Int) < (b : Int) := by omega
              have hri3 : decide ((mid : Int) < (en : Int)) = true := decide_eq_true (by omega)
              have hri4 : decide ((en : Int) < (b : Int)) = true := decide_eq_true (by omega)
              have HSD := Lib.hid S1.out
              clear S1
              have HRO := Lib.hid (rotate_any #[] blk cap s m en d0 d w0 wr R HHS.out HSD.out (by omega) (by omega) (by omega) (by omega))
              rw [← HHS.out] at HRO
              go_wp2_with (first
                | (go_at_call 114; refine HRO.out.mono ?_; rintro e w1 ⟨rfl, d1, hs1, hr1, hp1⟩; have HS1 := Lib.hid hs1; have HR1 := Lib.hid hr1; have HP1 := Lib.hid hp1; have HZ1 : Hid (d0.size = d1.size) := HHS.out.trans hp1.1.symm; have hz1 : d0.size ≤ d1.size := Nat.le_of_eq HZ1.out; have HH := Lib.hid (found_halves keyLt_trans HM.out (by omega) (by omega) HF.out (HEN.out.symm ▸ hr1)); rw [HEN.out] at HH; clear hs1 hr1 hp1; have HP2 : Hid (PermIn a mid d1 d1) := permIn_refl _ _ _; have HA2 : Hid (Asc keyLt d1 a mid) := left_none (by omega) (by omega) (by omega) HH.out.1 HH.out.2.1; have HS2 := HS1; have HZ2 := HZ1)
                | (go_at_call_of 103 (Value.int .i64 (b : Int)); refine (HIH.out mid en b d1 w1 (by omega) HZ2.out HS2.out (by omega) (by omega) (by omega) (Mrg.after HP2.out HH.out.2.2.1 HH.out.2.2.2.1 HH.out.2.2.2.2.2.1 (by omega))).mono ?_; rintro e w3 ⟨rfl, d3, hs3, hp3, ha3⟩))
              all_goals
                go_end0
                have hfin := halves_done HP2.out hp3 (by omega) (by omega) (by omega) HA2.out ha3 HH.out.2.2.2.2.2.2
                exact ⟨rfl, d3, hs3, permIn_trans _ _ _ _ _ (permIn_mono _ _ _ _ _ _ (by omega) (by omega) (by omega) HP1.out) hfin.1, hfin.2⟩
            · have hro1 : (s : Int) < (m : Int) := by omega
              have hro2 : (m : Int) < (en : Int) := by omega
              have hro3 : decide ((s : Int) < (m : Int)) = true := decide_eq_true (by omega)
              have hro4 : decide ((m : Int) < (en : Int)) = true := decide_eq_true (by omega)
              have hle5 : ((decide ((a : Int) < (s : Int))) && (decide ((s : Int) < (mid : Int)))) = false := by rw [Bool.and_eq_false_iff, decide_eq_false_iff_not, decide_eq_false_iff_not]; omega
              have hri5 : ((decide ((mid : Int) < (en : Int))) && (decide ((en : Int) < (b : Int)))) = false := by rw [Bool.and_eq_false_iff, decide_eq_false_iff_not, decide_eq_false_iff_not]; omega
              have HSD := Lib.hid S1.out
              clear S1
              have HRO := Lib.hid (rotate_any #[] blk cap s m en d0 d w0 wr R HHS.out HSD.out (by omega) (by omega) (by omega) (by omega))
              rw [← HHS.out] at HRO
              go_wp2_with (first
                | (go_at_call 114; refine HRO.out.mono ?_; rintro e w1 ⟨rfl, d1, hs1, hr1, hp1⟩; have HS1 := Lib.hid hs1; have HR1 := Lib.hid hr1; have HP1 := Lib.hid hp1; have HZ1 : Hid (d0.size = d1.size) := HHS.out.trans hp1.1.symm; have hz1 : d0.size ≤ d1.size := Nat.le_of_eq HZ1.out; have HH := Lib.hid (found_halves keyLt_trans HM.out (by omega) (by omega) HF.out (HEN.out.symm ▸ hr1)); rw [HEN.out] at HH; clear hs1 hr1 hp1; have HP2 : Hid (PermIn a mid d1 d1) := permIn_refl _ _ _; have HA2 : Hid (Asc keyLt d1 a mid) := left_none (by omega) (by omega) (by omega) HH.out.1 HH.out.2.1; have HS2 := HS1; have HZ2 := HZ1))
              all_goals
                have hp3 : PermIn mid b d1 d1 := permIn_refl _ _ _
                have hs3 := HS2.out
                have ha3 : Asc keyLt d1 mid b := left_none (by omega) (by omega) (by omega) (Mrg.after HP2.out HH.out.2.2.1 HH.out.2.2.2.1 HH.out.2.2.2.2.2.1 (by omega)).1 (Mrg.after HP2.out HH.out.2.2.1 HH.out.2.2.2.1 HH.out.2.2.2.2.2.1 (by omega)).2.1
                go_end0
                have hfin := halves_done HP2.out hp3 (by omega) (by omega) (by omega) HA2.out ha3 HH.out.2.2.2.2.2.2
                exact ⟨rfl, d1, hs3, permIn_trans _ _ _ _ _ (permIn_mono _ _ _ _ _ _ (by omega) (by omega) (by omega) HP1.out) hfin.1, hfin.2⟩
        · by_cases cle : a < s ∧ s < mid
          · by_cases cri : mid < en ∧ en < b
            · have hro5 : ((decide ((s : Int) < (m : Int))) && (decide ((m : Int) < (en : Int)))) = false := by rw [Bool.and_eq_false_iff, decide_eq_false_iff_not, decide_eq_false_iff_not]; omega
              have hle1 : (a : Int) < (s : Int) := by omega
              have hle2 : (s : Int) < (mid : Int) := by omega
              have hle3 : decide ((a : Int) < (s : Int)) = true := decide_eq_true (by omega)
              have hle4 : decide ((s : Int) < (mid : Int)) = true := decide_eq_true (by omega)
              have hri1 : (mid : Int) < (en : Int) := by omega
              have hri2 : (en : Int) < (b : Int) := by omega
              have hri3 : decide ((mid : Int) < (en : Int)) = true := decide_eq_true (by omega)
              have hri4 : decide ((en : Int) < (b : Int)) = true := decide_eq_true (by omega)
              have HSD := Lib.hid S1.out
              clear S1
              have HR1 : Hid (RotP d d s m en) := rot_none (by omega) (by omega) (by omega)
              have HP1 : Hid (PermIn s en d d) := permIn_refl _ _ _
              have HS1 := HSD
              have HZ1 := HHS
              have HH := Lib.hid (found_halves keyLt_trans HM.out (by omega) (by omega) HF.out (HEN.out.symm ▸ HR1.out))
              rw [HEN.out] at HH
              go_wp2_with (first
                | (go_at_call_of 103 (Value.int .i64 (a : Int)); refine (HIH.out a s mid d wr (by omega) HZ1.out HS1.out (by omega) (by omega) (by omega) ⟨HH.out.1, HH.out.2.1, HH.out.2.2.2.2.1⟩).mono ?_; rintro e w2 ⟨rfl, d2, hs2, hp2, ha2⟩; have HS2 := Lib.hid hs2; have HP2 := Lib.hid hp2; have HA2 := Lib.hid ha2; have HZ2 : Hid (d0.size = d2.size) := HZ1.out.trans hp2.1.symm; have hz2 : d0.size ≤ d2.size := Nat.le_of_eq HZ2.out; clear hs2 hp2 ha2)
                | (go_at_call_of 103 (Value.int .i64 (b : Int)); refine (HIH.out mid en b d2 w2 (by omega) HZ2.out HS2.out (by omega) (by omega) (by omega) (Mrg.after HP2.out HH.out.2.2.1 HH.out.2.2.2.1 HH.out.2.2.2.2.2.1 (by omega))).mono ?_; rintro e w3 ⟨rfl, d3, hs3, hp3, ha3⟩))
              all_goals
                go_end0
                have hfin := halves_done HP2.out hp3 (by omega) (by omega) (by omega) HA2.out ha3 HH.out.2.2.2.2.2.2
                exact ⟨rfl, d3, hs3, permIn_trans _ _ _ _ _ (permIn_mono _ _ _ _ _ _ (by omega) (by omega) (by omega) HP1.out) hfin.1, hfin.2⟩
            · have hro5 : ((decide ((s : Int) < (m : Int))) && (decide ((m : Int) < (en : Int)))) = false := by rw [Bool.and_eq_false_iff, decide_eq_false_iff_not, decide_eq_false_iff_not]; omega
              have hle1 : (a : Int) < (s : Int) := by omega
              have hle2 : (s : Int) < (mid : Int) := by omega
              have hle3 : decide ((a : Int) < (s : Int)) = true := decide_eq_true (by omega)
              have hle4 : decide ((s : Int) < (mid : Int)) = true := decide_eq_true (by omega)
              have hri5 : ((decide ((mid : Int) < (en : Int))) && (decide ((en : Int) < (b : Int)))) = false := by rw [Bool.and_eq_false_iff, decide_eq_false_iff_not, decide_eq_false_iff_not]; omega
              have HSD := Lib.hid S1.out
              clear S1
              have HR1 : Hid (RotP d d s m en) := rot_none (by omega) (by omega) (by omega)
              have HP1 : Hid (PermIn s en d d) := permIn_refl _ _ _
              have HS1 := HSD
              have HZ1 := HHS
              have HH := Lib.hid (found_halves keyLt_trans HM.out (by omega) (by omega) HF.out (HEN.out.symm ▸ HR1.out))
              rw [HEN.out] at HH
              go_wp2_with (first
                | (go_at_call_of 103 (Value.int .i64 (a : Int)); refine (HIH.out a s mid d wr (by omega) HZ1.out HS1.out (by omega) (by omega) (by omega) ⟨HH.out.1, HH.out.2.1, HH.out.2.2.2.2.1⟩).mono ?_; rintro e w2 ⟨rfl, d2, hs2, hp2, ha2⟩; have HS2 := Lib.hid hs2; have HP2 := Lib.hid hp2; have HA2 := Lib.hid ha2; have HZ2 : Hid (d0.size = d2.size) := HZ1.out.trans hp2.1.symm; have hz2 : d0.size ≤ d2.size := Nat.le_of_eq HZ2.out; clear hs2 hp2 ha2))
              all_goals
                have hp3 : PermIn mid b d2 d2 := permIn_refl _ _ _
                have hs3 := HS2.out
                have ha3 : Asc keyLt d2 mid b := left_none (by omega) (by omega) (by omega) (Mrg.after HP2.out HH.out.2.2.1 HH.out.2.2.2.1 HH.out.2.2.2.2.2.1 (by omega)).1 (Mrg.after HP2.out HH.out.2.2.1 HH.out.2.2.2.1 HH.out.2.2.2.2.2.1 (by omega)).2.1
                go_end0
                have hfin := halves_done HP2.out hp3 (by omega) (by omega) (by omega) HA2.out ha3 HH.out.2.2.2.2.2.2
                exact ⟨rfl, d2, hs3, permIn_trans _ _ _ _ _ (permIn_mono _ _ _ _ _ _ (by omega) (by omega) (by omega) HP1.out) hfin.1, hfin.2⟩
          · by_cases cri : mid < en ∧ en < b
            · have hro5 : ((decide ((s : Int) < (m : Int))) && (decide ((m : Int) < (en : Int)))) = false := by rw [Bool.and_eq_false_iff, decide_eq_false_iff_not, decide_eq_false_iff_not]; omega
              have hle5 : ((decide ((a : Int) < (s : Int))) && (decide ((s : Int) < (mid : Int)))) = false := by rw [Bool.and_eq_false_iff, decide_eq_false_iff_not, decide_eq_false_iff_not]; omega
              have hri1 : (mid : Int) < (en : Int) := by omega
              have hri2 : (en : Int) < (b : Int) := by omega
              have hri3 : decide ((mid : Int) < (en : Int)) = true := decide_eq_true (by omega)
              have hri4 : decide ((en : Int) < (b : Int)) = true := decide_eq_true (by omega)
              have HSD := Lib.hid S1.out
              clear S1
              have HR1 : Hid (RotP d d s m en) := rot_none (by omega) (by omega) (by omega)
              have HP1 : Hid (PermIn s en d d) := permIn_refl _ _ _
              have HS1 := HSD
              have HZ1 := HHS
              have HH := Lib.hid (found_halves keyLt_trans HM.out (by omega) (by omega) HF.out (HEN.out.symm ▸ HR1.out))
              rw [HEN.out] at HH
              have HP2 : Hid (PermIn a mid d d) := permIn_refl _ _ _
              have HA2 : Hid (Asc keyLt d a mid) := left_none (by omega) (by omega) (by omega) HH.out.1 HH.out.2.1
              have HS2 := HS1
              have HZ2 := HZ1
              go_wp2_with (first
                | (go_at_call_of 103 (Value.int .i64 (b : Int)); refine (HIH.out mid en b d wr (by omega) HZ2.out HS2.out (by omega) (by omega) (by omega) (Mrg.after HP2.out HH.out.2.2.1 HH.out.2.2.2.1 HH.out.2.2.2.2.2.1 (by omega))).mono ?_; rintro e w3 ⟨rfl, d3, hs3, hp3, ha3⟩))
              all_goals
                go_end0
                have hfin := halves_done HP2.out hp3 (by omega) (by omega) (by omega) HA2.out ha3 HH.out.2.2.2.2.2.2
                exact ⟨rfl, d3, hs3, permIn_trans _ _ _ _ _ (permIn_mono _ _ _ _ _ _ (by omega) (by omega) (by omega) HP1.out) hfin.1, hfin.2⟩
            · have hro5 : ((decide ((s : Int) < (m : Int))) && (decide ((m : Int) < (en : Int)))) = false := by rw [Bool.and_eq_false_iff, decide_eq_false_iff_not, decide_eq_false_iff_not]; omega
              have hle5 : ((decide ((a : Int) < (s : Int))) && (decide ((s : Int) < (mid : Int)))) = false := by rw [Bool.and_eq_false_iff, decide_eq_false_iff_not, decide_eq_false_iff_not]; omega
              have hri5 : ((decide ((mid : Int) < (en : Int))) && (decide ((en : Int) < (b : Int)))) = false := by rw [Bool.and_eq_false_iff, decide_eq_false_iff_not, decide_eq_false_iff_not]; omega
              have HSD := Lib.hid S1.out
              clear S1
              have HR1 : Hid (RotP d d s m en) := rot_none (by omega) (by omega) (by omega)
              have HP1 : Hid (PermIn s en d d) := permIn_refl _ _ _
              have HS1 := HSD
              have HZ1 := HHS
              have HH := Lib.hid (found_halves keyLt_trans HM.out (by omega) (by omega) HF.out (HEN.out.symm ▸ HR1.out))
              rw [HEN.out] at HH
              have HP2 : Hid (PermIn a mid d d) := permIn_refl _ _ _
              have HA2 : Hid (Asc keyLt d a mid) := left_none (by omega) (by omega) (by omega) HH.out.1 HH.out.2.1
              have HS2 := HS1
              have HZ2 := HZ1
              go_wp2
              all_goals
                have hp3 : PermIn mid b d d := permIn_refl _ _ _
                have hs3 := HS2.out
                have ha3 : Asc keyLt d mid b := left_none (by omega) (by omega) (by omega) (Mrg.after HP2.out HH.out.2.2.1 HH.out.2.2.2.1 HH.out.2.2.2.2.2.1 (by omega)).1 (Mrg.after HP2.out HH.out.2.2.1 HH.out.2.2.2.1 HH.out.2.2.2.2.2.1 (by omega)).2.1
                go_end0
                have hfin := halves_done HP2.out hp3 (by omega) (by omega) (by omega) HA2.out ha3 HH.out.2.2.2.2.2.2
                exact ⟨rfl, d, hs3, permIn_trans _ _ _ _ _ (permIn_mono _ _ _ _ _ _ (by omega) (by omega) (by omega) HP1.out) hfin.1, hfin.2⟩

theorem symmerge_any (blk cap : Nat) (d0 : Array DepV) (w0 : World) (R : RowD w0 blk d0) (hsz : d0.size < 2305843009213693952) : ∀ N, SymC blk cap d0 w0 N := by
  intro N
  induction N with
  | zero => intro a m b d w hN hs S ham hmb hb hM; omega
  | succ N ih =>
    intro a m b d w hN hs S ham hmb hb hM
    by_cases h1 : m = a + 1
    · subst h1
      rw [hs]
      exact symone_any blk cap a b d0 d w0 w R hs S hb (by omega) hmb hM _ (by omega)
    · by_cases h2 : b = m + 1
      · subst h2
        rw [hs]
        exact symlast_any blk cap a m d0 d w0 w R hs S hb (by omega) (by omega) hM _ (by omega)
      · exact symstep_any blk cap N d0 w0 R hsz ih a m b d w hN hs S (by omega) (by omega) hb hM
end Go.Proofs.YtmiijgjpkkmoaaaGreat
