import Derived.Test.YtabjpejgnfeegaaRefLay
import Derived.Test.YtabjpejgnfeegaaItems
import Derived.Test.YtabjpejgnfeegaaTab5
/- The reference's layout: the first of those that do not lie yet into the first free cell. -/
namespace Go.Proofs.Ytabjpejgnfeegaa
open Go.ChangeShapes Go.WideShapes Go.ChangeAt Go.RowKit Go.Deep

theorem infoBool : (Try.prog.info? 4).map (fun i => (i.zero, i.size, i.bytes)) = some (some (.bool false), 1, 1) := by kernel_rfl
/-- The first k of an order. -/
def doneB (f : Nat → Nat) (k i : Nat) : Bool := (List.range k).any fun j => f j == i
theorem doneB_iff (f : Nat → Nat) (k i : Nat) : doneB f k i = true ↔ ∃ j, j < k ∧ f j = i := by simp [doneB]
theorem doneB_succ (f : Nat → Nat) (k i : Nat) : doneB f (k + 1) i = (doneB f k i || f k == i) := by simp [doneB, List.range_succ]

/-- What is known while two items are compared. -/
abbrev RfS (b2 y b off m : Nat) (s1 r1 k1 s2 r2 k2 : Value) (w0 w' : World) : Prop :=
  w'.cell? ⟨b2, y, none⟩ = some (.bool false) ∧ w'.cell? ⟨b, off + y * 3, none⟩ = some s1 ∧ w'.cell? ⟨b, off + y * 3 + 1, none⟩ = some r1 ∧ w'.cell? ⟨b, off + y * 3 + 2, none⟩ = some k1 ∧
    w'.cell? ⟨b, off + m * 3, none⟩ = some s2 ∧ w'.cell? ⟨b, off + m * 3 + 1, none⟩ = some r2 ∧ w'.cell? ⟨b, off + m * 3 + 2, none⟩ = some k2 ∧ Hid (Touch Nil w0 w')
theorem RfS.step {b2 y b off m : Nat} {s1 r1 k1 s2 r2 k2 : Value} {w0 w w' : World} (hs : Touch Nil w w') (h : RfS b2 y b off m s1 r1 k1 s2 r2 k2 w0 w) : RfS b2 y b off m s1 r1 k1 s2 r2 k2 w0 w' := by
  obtain ⟨h0, h1, h2, h3, h4, h5, h6, h7⟩ := h
  have k : ∀ {b o : Nat} {u : Value}, w.cell? ⟨b, o, none⟩ = some u → w'.cell? ⟨b, o, none⟩ = some u := fun {b o u} h => (hs.cell (World.block_lt_of_cell? w _ h) (fun c => c) o).trans h
  exact ⟨k h0, k h1, k h2, k h3, k h4, k h5, k h6, Lib.hid (h7.out.trans hs)⟩

set_option maxRecDepth 100000 in
set_option maxHeartbeats 2000000 in
theorem layRef_any (C : Nat) {w : World} {ao : Option Addr} {n : Nat} (cap : Nat) {v : Nat → Nat → Value} {st rk : Nat → Int} {key : Nat → Key} (h : Its w ao n v st rk key) (hC : 1 ≤ C) (hC2 : C ≤ 1048576) (hn : n ≤ C) :
    Calls Try.prog 18 #[.int .i64 (C : Int), .slice ao n cap] w (LayN C n st (ltI rk key) w) := by
  obtain ⟨f, hf⟩ := ordr_exists (ltI_swo rk key n)
  have HS := Lib.hid h
  have HF := Lib.hid hf
  clear h hf
  have hmk2 := run_make_row' (P := Try.prog) 82 4 (.bool false) 1 Try.underlying82 infoBool rfl .i64 .i64 n (by omega) (by omega)
  have hmk := run_make_row' (P := Try.prog) 27 3 (.int .i64 0) 8 Try.underlying27 infoInt rfl .i64 .i64 C (by omega) (by omega)
  have d1 : decide ((C : Int) < 1) = false := by simp; omega
  have d2 : decide ((1048576 : Int) < (C : Int)) = false := by simp; omega
  have d3 : decide (C < n) = false := by simp; omega
  go_enter Try.func18, Try.ntmps18
  go_wp2_with fail
  clear hmk
  have HR0 := Lib.hid (World.rowIs_made w (.int .i64 0) C 3)
  have HT0 := Lib.hid ((Touch.refl Nil w).alloc (.cells (madeCells #[.int .i64 0] C) 3))
  go_loopw [6] (fun i wr => ∃ x : Nat, x ≤ C ∧ i = .int .i64 (x : Int) ∧ wr.rowIs w.heap.size 3 C (fun c => .int .i64 (if c < x then -1 else 0)) ∧ Touch Nil w wr) (fun i _ => C - (intOf i).toNat)
  case atStart => exact ⟨0, Nat.zero_le _, rfl, World.rowIs.congr HR0.out fun i _ => by simp, HT0.out⟩
  obtain ⟨x, hx, rfl, hrow, hto⟩ := hrel
  have HR := Lib.hid hrow
  have HT := Lib.hid hto
  clear hrow hto
  by_cases hlt : x < C
  · have c1 := World.rowIs.cell HR.out hlt
    have z1 := World.rowIs.frozen HR.out x
    have i1 : (x : Int) < (C : Int) := by omega
    have i2 : (0 : Int) ≤ (x : Int) := by omega
    have HR2 := Lib.hid (World.rowIs.set HR.out x (.int .i64 (-1)))
    have HT2 := Lib.hid (HT.out.setCell ⟨w.heap.size, x, none⟩ (.int .i64 (-1)) fun h => by simp at h)
    go_wp2_with fail
    go_roundw
    case rel =>
      refine ⟨x + 1, by omega, by go_num, World.rowIs.congr HR2.out fun i hi => ?_, HT2.out⟩
      by_cases c : i = x
      · subst c; simp
      · by_cases c2 : i < x
        · rw [if_neg c, if_pos c2, if_pos (by omega)]
        · rw [if_neg c, if_neg c2, if_neg (by omega)]
    case measure => simp [intOf]; omega
  · obtain rfl : x = C := by omega
    obtain ⟨wo, ewo⟩ : ∃ wo : World, wo = wr := ⟨_, rfl⟩
    have hB2 : w.heap.size < wr.heap.size := World.rowIs.lt HR.out
    have HRB := Lib.hid (World.rowIs_made wr (.bool false) n 4)
    have HRL := Lib.hid (((Touch.refl Nil wr).alloc (.cells (madeCells #[.bool false] n) 4)).row HR.out (fun c => c))
    have HTL := Lib.hid (HT.out.alloc (.cells (madeCells #[.bool false] n) 4))
    generalize hb2 : wr.heap.size = b2 at *
    go_wp2_with fail
    go_loopw [8, 9, 10, 11] (fun q _ _ _ wx => ∃ k : Nat, k ≤ n ∧ q = .int .i64 (k : Int) ∧ wx.rowIs w.heap.size 3 x (fun c => .int .i64 (cellV (place x (home x st) f k c))) ∧ wx.rowIs b2 4 n (fun i => .bool (doneB f k i)) ∧ Touch Nil w wx) (fun q _ _ _ _ => n - (intOf q).toNat)
    case atStart => exact ⟨0, Nat.zero_le _, rfl, World.rowIs.congr HRL.out fun i hi => by simp [place, cellV, hi], World.rowIs.congr HRB.out fun i hi => by simp [doneB], HTL.out⟩
    obtain ⟨k, hk, rfl, hro, hrd, hto⟩ := hrel
    obtain ⟨w2, rfl⟩ : ∃ w2 : World, w2 = wr := ⟨_, rfl⟩
    have HRO := Lib.hid hro
    have HRD := Lib.hid hrd
    have HT := Lib.hid hto
    clear hro hrd hto
    by_cases hltk : k < n
    · have i1 : (k : Int) < (n : Int) := by omega
      have i2 : (0 : Int) ≤ (k : Int) := by omega
      have HSR := Lib.hid (HS.out.keepN HT.out)
      go_wp2_with fail
      obtain ⟨b, off, rfl, hb, hcell⟩ := HSR.out.cells (by omega)
      have HCELL := Lib.hid hcell
      clear hcell
      go_loopw [9, 10] (fun t i wy => ∃ y : Nat, y ≤ n ∧ i = .int .i64 (y : Int) ∧ t = .int .i64 (cellV (pickN (ltI rk key) (doneB f k) y)) ∧ Touch Nil w2 wy) (fun _ i _ => n - (intOf i).toNat)
      case atStart => exact ⟨0, Nat.zero_le _, rfl, rfl, Touch.refl _ _⟩
      obtain ⟨y, hy, rfl, rfl, hty⟩ := hrel
      obtain ⟨wy, rfl⟩ : ∃ wy : World, wy = wr := ⟨_, rfl⟩
      have HTY := Lib.hid hty
      have HRDY := Lib.hid (hty.row HRD.out (fun c => c))
      clear hty
      by_cases hlty : y < n
      · have c0 := HRDY.out.cell hlty
        have j1 : (y : Int) < (n : Int) := by omega
        have j2 : (0 : Int) ≤ (y : Int) := by omega
        cases hdb : doneB f k y
        case true =>
          rw [hdb] at c0
          have HPK := Lib.hid (show pickN (ltI rk key) (doneB f k) (y + 1) = pickN (ltI rk key) (doneB f k) y from by simp only [pickN, hdb, if_true])
          have HE : ∃ z, cellV (pickN (ltI rk key) (doneB f k) y) = z := ⟨_, rfl⟩
          obtain ⟨z, ez⟩ := HE
          rw [ez]
          have HZ := Lib.hid ez
          clear hdb ez
          go_wp2_with (go_quiet (fail))
          go_roundw
          case rel => exact ⟨y + 1, by omega, by go_num, by rw [HPK.out, HZ.out], HTY.out.drewN _⟩
          case measure => simp [intOf]; omega
        case false =>
          rw [hdb] at c0
          cases hpk : pickN (ltI rk key) (doneB f k) y with
          | none =>
            have HPK := Lib.hid (show pickN (ltI rk key) (doneB f k) (y + 1) = some y from by
              simp only [pickN, hdb, hpk]
              simp)
            have HE : ∃ z : Int, cellV none = z := ⟨_, rfl⟩
            obtain ⟨z, ez⟩ := HE
            have hz : decide (z < 0) = true := by rw [← ez]; rfl
            rw [ez]
            clear hdb ez hpk
            go_wp2_with (go_quiet (fail))
            go_roundw
            case rel => exact ⟨y + 1, by omega, by go_num, by rw [HPK.out]; rfl, HTY.out.drewN _⟩
            case measure => simp [intOf]; omega
          | some m =>
            obtain ⟨hm1, hm2, _⟩ := pickN_spec (ltI_swo rk key n) y m hy hpk
            have HPK := Lib.hid (show pickN (ltI rk key) (doneB f k) (y + 1) = if ltI rk key y m = true then some y else some m from by
              simp only [pickN, hdb, hpk]
              simp)
            have hSY := HSR.out.keepN HTY.out
            obtain ⟨b', off', e', hb', hcell⟩ := hSY.cells (by omega)
            cases e'
            have q0 := hcell y hlty 0 (by omega)
            have q1 := hcell y hlty 1 (by omega)
            have q2 := hcell y hlty 2 (by omega)
            have r0 := hcell m (by omega) 0 (by omega)
            have r1 := hcell m (by omega) 1 (by omega)
            have r2 := hcell m (by omega) 2 (by omega)
            rw [Nat.add_zero] at q0 r0
            have HIT := Lib.hid (fun w' (ht : Touch Nil wy w') => (its_bef hSY).call w' y m ht hlty (show m < n by omega))
            rw [hSY.start y hlty] at q0
            rw [hSY.rank y hlty] at q1
            rw [hSY.start m (by omega)] at r0
            rw [hSY.rank m (by omega)] at r1
            obtain ⟨⟨a2, k2, e2, _, _⟩, _⟩ := hSY.keys y hlty
            obtain ⟨⟨a3, k3, e3, _, _⟩, _⟩ := hSY.keys m (by omega)
            rw [e2] at q2
            rw [e3] at r2
            have HSTART := Lib.hid (show RfS b2 y b off m (.int .i64 (st y)) (.int .u64 (rk y)) (.slice a2 (key y).length k2) (.int .i64 (st m)) (.int .u64 (rk m)) (.slice a3 (key m).length k3) wy wy.drew from ⟨c0, q0, q1, q2, r0, r1, r2, Lib.hid (Touch.refl _ _).drew⟩)
            have HCAL := Lib.hid (show ∀ w', Touch Nil wy w' → Calls Try.prog 44 #[.agg #[.int .i64 (st y), .int .u64 (rk y), .slice a2 (key y).length k2], .agg #[.int .i64 (st m), .int .u64 (rk m), .slice a3 (key m).length k3]] w' (BoolN (ltI rk key y m) w') from fun w' ht => by
              have := HIT.out w' ht
              unfold itemI at this
              rw [hSY.start y hlty, hSY.rank y hlty, e2, hSY.start m (by omega), hSY.rank m (by omega), e3] at this
              exact this.mono fun e w'' ⟨h1, _, h2⟩ => ⟨h1, h2⟩)
            have dm : decide ((m : Int) < 0) = false := by rw [decide_eq_false_iff_not]; omega
            have j3 : (m : Int) < (n : Int) := by omega
            have j4 : (0 : Int) ≤ (m : Int) := by omega
            have HE : ∃ lt, ltI rk key y m = lt := ⟨_, rfl⟩
            obtain ⟨lt, elt⟩ := HE
            rw [elt] at HPK
            simp only [elt] at HCAL
            have HE : ∃ l2, (key y).length = l2 := ⟨_, rfl⟩
            obtain ⟨l2, el2⟩ := HE
            have HE : ∃ l3, (key m).length = l3 := ⟨_, rfl⟩
            obtain ⟨l3, el3⟩ := HE
            rw [el2, el3] at HSTART
            simp only [el2, el3] at HCAL
            show Code.wp _ _ _ _ _
            clear hdb hpk hSY hb' hcell HIT e2 e3 elt c0 q0 q1 q2 r0 r1 r2 hm2 el2 el3
            rw [show cellV (some m) = (m : Int) from rfl]
            go_wp2_with fail
            have f0 := fun s : Wld (RfS b2 y b off m (.int .i64 (st y)) (.int .u64 (rk y)) (.slice a2 l2 k2) (.int .i64 (st m)) (.int .u64 (rk m)) (.slice a3 l3 k3) wy) => s.ok.1
            have f1 := fun s : Wld (RfS b2 y b off m (.int .i64 (st y)) (.int .u64 (rk y)) (.slice a2 l2 k2) (.int .i64 (st m)) (.int .u64 (rk m)) (.slice a3 l3 k3) wy) => s.ok.2.1
            have f2 := fun s : Wld (RfS b2 y b off m (.int .i64 (st y)) (.int .u64 (rk y)) (.slice a2 l2 k2) (.int .i64 (st m)) (.int .u64 (rk m)) (.slice a3 l3 k3) wy) => s.ok.2.2.1
            have f3 := fun s : Wld (RfS b2 y b off m (.int .i64 (st y)) (.int .u64 (rk y)) (.slice a2 l2 k2) (.int .i64 (st m)) (.int .u64 (rk m)) (.slice a3 l3 k3) wy) => s.ok.2.2.2.1
            have f4 := fun s : Wld (RfS b2 y b off m (.int .i64 (st y)) (.int .u64 (rk y)) (.slice a2 l2 k2) (.int .i64 (st m)) (.int .u64 (rk m)) (.slice a3 l3 k3) wy) => s.ok.2.2.2.2.1
            have f5 := fun s : Wld (RfS b2 y b off m (.int .i64 (st y)) (.int .u64 (rk y)) (.slice a2 l2 k2) (.int .i64 (st m)) (.int .u64 (rk m)) (.slice a3 l3 k3) wy) => s.ok.2.2.2.2.2.1
            have f6 := fun s : Wld (RfS b2 y b off m (.int .i64 (st y)) (.int .u64 (rk y)) (.slice a2 l2 k2) (.int .i64 (st m)) (.int .u64 (rk m)) (.slice a3 l3 k3) wy) => s.ok.2.2.2.2.2.2.1
            have HCALS := Lib.hid (fun s : Wld (RfS b2 y b off m (.int .i64 (st y)) (.int .u64 (rk y)) (.slice a2 l2 k2) (.int .i64 (st m)) (.int .u64 (rk m)) (.slice a3 l3 k3) wy) => HCAL.out s.w s.ok.2.2.2.2.2.2.2.out)
            have _hne : Nonempty (Wld (RfS b2 y b off m (.int .i64 (st y)) (.int .u64 (rk y)) (.slice a2 l2 k2) (.int .i64 (st m)) (.int .u64 (rk m)) (.slice a3 l3 k3) wy)) := ⟨⟨_, HSTART.out⟩⟩
            refine wp_region_class (S := (RfS b2 y b off m (.int .i64 (st y)) (.int .u64 (rk y)) (.slice a2 l2 k2) (.int .i64 (st m)) (.int .u64 (rk m)) (.slice a3 l3 k3) wy)) HSTART.out (by kernel_rfl) (by kernel_rfl) ?_
            repeat (go_big_quiet_step (first | (go_at_call 44; refine calls_class_bool (r := lt) (HCALS.out _) ?_; intro w' ht; exact RfS.step ht (Wld.ok _))))
            refine wpQuiet_nil ?_
            intro _ hw'
            obtain ⟨sq, hw''⟩ := hw'
            subst hw''
            have HT5 := Lib.hid (HTY.out.trans sq.ok.2.2.2.2.2.2.2.out)
            have HG : ∃ w3, sq.w = w3 := ⟨_, rfl⟩
            obtain ⟨w3, e3⟩ := HG
            rw [e3] at HT5 ⊢
            clear e3 sq f0 f1 f2 f3 f4 f5 f6 HCALS _hne HSTART HCAL
            cases lt
            case false =>
              go_wp2_with fail
              go_roundw
              case rel => exact ⟨y + 1, by omega, by go_num, by rw [HPK.out]; rfl, HT5.out⟩
              case measure => simp [intOf]; omega
            case true =>
              go_wp2_with fail
              go_roundw
              case rel => exact ⟨y + 1, by omega, by go_num, by rw [HPK.out]; rfl, HT5.out⟩
              case measure => simp [intOf]; omega
      · obtain rfl : y = n := by omega
        have hpick := pick_ordr (done := doneB f k) (ltI_swo rk key y) HF.out hltk fun i _ => doneB_iff f k i
        have hfree := place_free (h := home x st) (ord := f) (by omega) (home_lt (by omega) st) hn hltk
        have hm := HF.out.lt' k hltk
        have HPL := Lib.hid (show place x (home x st) f (k + 1) = put1 (place x (home x st) f k) (ff x (place x (home x st) f k) (home x st (f k))) (f k) from rfl)
        have HDS := Lib.hid (doneB_succ f k)
        rw [hpick]
        have HE : ∃ m, f k = m := ⟨_, rfl⟩
        obtain ⟨m, em⟩ := HE
        rw [em] at hm HPL ⊢
        simp only [em] at HDS
        have HE : ∃ L, place x (home x st) f k = L := ⟨_, rfl⟩
        obtain ⟨L, eL⟩ := HE
        rw [eL] at hfree HPL HRO
        have HHL := Lib.hid (home_lt (show 0 < x by omega) st m)
        have HMD := Lib.hid (show ∀ W, Calls Try.prog 46 #[.int .i64 (st m), .int .i64 (x : Int)] W fun e w' => e = .returned (.int .i64 ((home x st m : Nat) : Int)) ∧ w' = W from fun W => by
          have := mod_any (st m) x hC hC2 W
          have e : ((home x st m : Nat) : Int) = st m % (x : Int) := by
            unfold home
            have := Int.emod_nonneg (st m) (show (x : Int) ≠ 0 by omega)
            omega
          rw [e]
          exact this)
        have HE : ∃ H, home x st m = H := ⟨_, rfl⟩
        obtain ⟨H, eH⟩ := HE
        rw [eH] at HPL HHL
        simp only [eH] at HMD
        have HFREE := Lib.hid hfree
        have hSY := HSR.out.keepN HTY.out
        obtain ⟨b', off', e', hb', hcell⟩ := hSY.cells (by omega)
        cases e'
        have r0 := hcell m hm 0 (by omega)
        rw [Nat.add_zero, hSY.start m hm] at r0
        rw [show cellV (some m) = (m : Int) from rfl]
        have j3 : (m : Int) < (y : Int) := by omega
        have j4 : (0 : Int) ≤ (m : Int) := by omega
        have HROY := Lib.hid (HTY.out.row HRO.out (fun c => c))
        clear hpick hfree em eL eH hSY hb' hcell
        go_wp2_with fail
        refine (HMD.out _).mono ?_
        rintro e w3 ⟨rfl, rfl⟩
        go_wp2_with fail
        go_loopw [11] (fun c wz => ∃ c' : Nat, c' < x ∧ c = .int .i64 (c' : Int) ∧ Hid (ff x L c' = ff x L H) ∧ Hid (wz = w3)) (fun c _ => dist x L (intOf c).toNat)
        case atStart => exact ⟨H, HHL.out, rfl, Lib.hid rfl, Lib.hid rfl⟩
        obtain ⟨c, hc, rfl, HFF, HWZ⟩ := hrel
        obtain rfl := HWZ.out
        have q0 := HROY.out.cell hc
        have l1 : (c : Int) < (x : Int) := by omega
        have l2 : (0 : Int) ≤ (c : Int) := by omega
        cases hLc : L c with
        | some i =>
          rw [hLc] at q0
          rw [show cellV (some i) = (i : Int) from rfl] at q0
          have dg : decide ((0 : Int) ≤ (i : Int)) = true := by rw [decide_eq_true_iff]; omega
          obtain ⟨n1, n2⟩ := dist_next HFREE.out hc (show L c ≠ none by rw [hLc]; simp)
          have HMN := Lib.hid (show ∀ W, Calls Try.prog 46 #[.int .i64 ((c : Int) + 1), .int .i64 (x : Int)] W fun e w' => e = .returned (.int .i64 (((c + 1) % x : Nat) : Int)) ∧ w' = W from fun W => by
            have := mod_any ((c : Int) + 1) x hC hC2 W
            rw [show (((c + 1) % x : Nat) : Int) = ((c : Int) + 1) % (x : Int) from by rw [Int.natCast_emod]; rfl]
            exact this)
          have hlt2 : (c + 1) % x < x := Nat.mod_lt _ (by omega)
          have HN1 := Lib.hid n1
          have HN2 := Lib.hid n2
          have HE : ∃ c2, (c + 1) % x = c2 := ⟨_, rfl⟩
          obtain ⟨c2, ec2⟩ := HE
          rw [ec2] at HN1 HN2 hlt2
          simp only [ec2] at HMN
          clear n1 n2 hLc ec2
          go_wp2_with fail
          refine (HMN.out _).mono ?_
          rintro e w4 ⟨rfl, rfl⟩
          go_wp2_with fail
          go_roundw
          case rel => exact ⟨c2, hlt2, rfl, Lib.hid (by rw [← HN2.out]; exact HFF.out), Lib.hid trivial⟩
          case measure => simp [intOf]; have := HN1.out; omega
        | none =>
          rw [hLc] at q0
          rw [show cellV (none : Option Nat) = -1 from rfl] at q0
          have HCF := Lib.hid (show ff x L H = c from by rw [← HFF.out]; exact (dist_free HFREE.out hc hLc).2)
          have hrdy := HTY.out.row HRD.out (fun c => c)
          have HRDY := Lib.hid hrdy
          have z1 := HROY.out.frozen c
          have d0 := hrdy.cell hm
          have z2 := hrdy.frozen m
          have n1 : ¬ b2 = w.heap.size := by omega
          have n2 : ¬ w.heap.size = b2 := by omega
          have HTS := Lib.hid (((HT.out.trans HTY.out).setCell ⟨w.heap.size, c, none⟩ (.int .i64 (m : Int)) fun h => by simp at h).setCell ⟨b2, m, none⟩ (.bool true) fun h => by have h : b2 < w.heap.size := h; omega)
          have HR1 := Lib.hid ((HROY.out.set c (.int .i64 (m : Int))).setOther (a := ⟨b2, m, none⟩) (by show w.heap.size ≠ b2; omega) (.bool true))
          have HR2 := Lib.hid ((hrdy.setOther (a := ⟨w.heap.size, c, none⟩) (by show b2 ≠ w.heap.size; omega) (.int .i64 (m : Int))).set m (.bool true))
          have dn : decide ((0 : Int) ≤ (-1 : Int)) = false := by decide
          clear hrdy hLc
          go_wp2_with fail
          go_roundw
          case rel =>
            refine ⟨k + 1, by omega, by go_num, World.rowIs.congr HR1.out fun i hi => ?_, World.rowIs.congr HR2.out fun i hi => ?_, HTS.out⟩
            · rw [HPL.out, HCF.out]
              by_cases e : i = c
              · rw [if_pos e]; simp [put1, e, cellV]
              · rw [if_neg e]; simp [put1, e]
            · rw [HDS.out]
              by_cases e : i = m
              · rw [if_pos e]; simp [e]
              · have e2 : (m == i) = false := by simp; omega
                rw [if_neg e, e2]; simp
          case measure => simp [intOf]; omega
    · obtain rfl : k = n := by omega
      go_wp2_with fail
      go_ret
      exact ⟨w.heap.size, f, rfl, Nat.le_refl _, HRO.out, HF.out, HT.out⟩
end Go.Proofs.Ytabjpejgnfeegaa
