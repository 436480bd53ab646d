import Derived.Test.YtejiijbmmpahhabTrueM
import Derived.Test.YtejiijbmmpahhabClass
/- Whether steps meet a node with the digest of another one: what the law calls. -/
namespace Go.Proofs.Ytejiijbmmpahhab
open Go.ChangeShapes Go.WideShapes Go.ChangeAt Go.RowKit Go.Deep

theorem calls_classB {S : World → Prop} {f : FuncId} {args : Array Value} {s : Wld S} {r : Bool} (h : Calls Try.prog f args s.w (BoolN r s.w)) (hR : ∀ w', Touch Nil s.w w' → S w') :
    Calls Try.prog f args s.w fun e w'' => e = .returned (.bool r) ∧ ∃ s' : Wld S, w'' = s'.w := h.mono fun _ w' ⟨he, hr⟩ => ⟨he, ⟨⟨w', hR w' hr⟩, rfl⟩⟩
abbrev MetS (X b o : Nat) (a0 a1 p0 p1 : Value) (w0 w' : World) : Prop :=
  w'.cell? ⟨X, 0, none⟩ = some a0 ∧ w'.cell? ⟨X, 1, none⟩ = some a1 ∧ w'.cell? ⟨b, o, none⟩ = some p0 ∧ w'.cell? ⟨b, o + 1, none⟩ = some p1 ∧ Hid (Touch Nil w0 w')
theorem MetS.step {X b o : Nat} {a0 a1 p0 p1 : Value} {w0 w w' : World} (hs : Touch Nil w w') (h : MetS X b o a0 a1 p0 p1 w0 w) : MetS X b o a0 a1 p0 p1 w0 w' := by
  obtain ⟨h0, h1, h2, h3, h4⟩ := h
  exact ⟨cell_step h0 hs, cell_step h1 hs, cell_step h2 hs, cell_step h3 hs, Lib.hid (h4.out.trans hs)⟩
theorem metT_key {seed : Int} {key : Key} {kk vv : Nat → Key} {dl dr : Nat → Nat} {f i : Nat} {l r : Tree} {k u : Key} (h : k ≠ kk i ∨ u ≠ vv i) : metT seed key kk vv dl dr (f + 1) i (.node l k u r) = true := by
  simp only [metT]; rw [if_pos h]
theorem metT_dig {seed : Int} {key : Key} {kk vv : Nat → Key} {dl dr : Nat → Nat} {f i : Nat} {l r : Tree} {k u : Key} (h : digT seed l ≠ dl i ∨ digT seed r ≠ dr i) : metT seed key kk vv dl dr (f + 1) i (.node l k u r) = true := by
  simp only [metT]
  by_cases hq : k ≠ kk i ∨ u ≠ vv i
  · rw [if_pos hq]
  · rw [if_neg hq, if_pos h]
theorem metT_at {seed : Int} {key : Key} {kk vv : Nat → Key} {dl dr : Nat → Nat} {f i : Nat} {l r : Tree} {k u : Key} (h1 : k = kk i) (h2 : u = vv i) (h3 : digT seed l = dl i) (h4 : digT seed r = dr i) :
    metT seed key kk vv dl dr (f + 1) i (.node l k u r) = if key = k then false else metT seed key kk vv dl dr f (i + 1) (if Lib.compareBytes key k < 0 then l else r) := by
  simp only [metT]; rw [if_neg (by rw [← h1, ← h2]; simp), if_neg (by rw [← h3, ← h4]; simp)]
theorem okL_node {l r : Tree} {k u : Key} (h : OkL (Tree.node l k u r).toL) : okK k u ∧ OkL l.toL ∧ OkL r.toL :=
  ⟨h (k, u) (by simp [Tree.toL]), fun p hp => h p (by simp [Tree.toL, hp]), fun p hp => h p (by simp [Tree.toL, hp])⟩

set_option maxRecDepth 100000 in
set_option maxHeartbeats 4000000 in
theorem met_any {seed : Int} {t : Tree} {w : World} {na : Option Addr} {nn nc : Nat} {qa : Option Addr} {ql qc : Nat} {key : Key} {ao : Option Addr} {n cap : Nat} {v : Nat → Nat → Value} {kk vv : Nat → Key} {dl dr : Nat → Nat} (h : NL w (.slice na nn nc) (nodesT seed 0 t)) (ho : OkL t.toL) (hq : BV w (.slice qa ql qc) key) (hs : Sds w ao n v kk vv dl dr) (hn : n ≤ 400) (hkl : key.length ≤ 1000000) (hok : ∀ i, i < n → okK (kk i) (vv i)) (hz : t.size ≤ 1000000) :
    Calls Try.prog 18 #[.slice na nn nc, .int .u64 seed, .slice qa ql qc, .slice ao n cap] w (BoolN (metT seed key kk vv dl dr n 0 t) w) := by
  have HN := Lib.hid h
  have HQ := Lib.hid hq
  have HS := Lib.hid hs
  have HOK := Lib.hid hok
  have HKL := Lib.hid hkl
  have HNN := Lib.hid (show nn = t.size from by have h := h.len; rw [nodesT_len] at h; exact h)
  have HNZ := Lib.hid (show nn ≤ 1000000 from by have := HNN.out; omega)
  obtain ⟨M, eM⟩ : ∃ M, metT seed key kk vv dl dr n 0 t = M := ⟨_, rfl⟩
  rw [eM]
  have HM := Lib.hid eM
  have HO := Lib.hid ho
  clear h hq hs hok hkl ho eM hz
  obtain ⟨N, eN⟩ : ∃ N, nodesT seed 0 t = N := ⟨_, rfl⟩
  rw [eN] at HN
  have HDR := Lib.hid (show N.drop 0 = nodesT seed 0 t ++ [] from by rw [← eN]; simp)
  have HNLEN := Lib.hid (show N.length = nn from by rw [← eN, nodesT_len, HNN.out])
  clear eN
  go_enter Try.func18, Try.ntmps18
  go_upto_if 16 with fail
  go_cut [9] (fun s9 wx => s9 = .int .i64 (childAt t 0) ∧ w = wx)
  case first =>
    cases t with
    | nil =>
      obtain rfl : nn = 0 := HNN.out
      go_wp2_with fail
      go_meet
      exact ⟨rfl, rfl⟩
    | node l0 k0 u0 r0 =>
      have hp : decide ((0 : Int) < (nn : Int)) = true := by have h := HNN.out; simp only [Tree.size] at h; simp; omega
      have hp3 : 0 < nn := by have h := HNN.out; simp only [Tree.size] at h; omega
      have hp2 : decide (0 < nn) = true := by have h := HNN.out; simp only [Tree.size] at h; simp; omega
      go_wp2_with fail
      go_meet
      exact ⟨rfl, rfl⟩
  case rest =>
    obtain ⟨rfl, rfl⟩ := hcut
    go_wp2_with fail
    go_loopw [9, 10] (fun a i wr => ∃ (x b : Nat) (s : Tree) (rest : List NodeC), x ≤ n ∧ a = .int .i64 (childAt s b) ∧ i = .int .i64 (x : Int) ∧ Hid (N.drop b = nodesT seed b s ++ rest ∧ OkL s.toL ∧ metT seed key kk vv dl dr (n - x) x s = M) ∧ Touch Nil w wr) (fun _ i _ => n - (intOf i).toNat)
    case atStart => exact ⟨0, 0, t, [], Nat.zero_le _, rfl, rfl, Lib.hid ⟨HDR.out, HO.out, HM.out⟩, Touch.refl _ _⟩
    obtain ⟨x, b, s, rest, hx, rfl, rfl, HR, hto⟩ := hrel
    have HT := Lib.hid hto
    clear hto HDR HO HM
    by_cases hlt : x < n
    · have i1 : (x : Int) < (n : Int) := by omega
      have i2 : (0 : Int) ≤ (x : Int) := by omega
      obtain ⟨f, ef⟩ : ∃ f, n - x = f + 1 := ⟨n - x - 1, by omega⟩
      cases s with
      | nil =>
        obtain rfl : M = true := by have h := HR.out.2.2; rw [ef] at h; exact h.symm
        clear HR ef
        simp only [childAt]
        go_wp2_with fail
        go_ret
        exact ⟨rfl, HT.out⟩
      | node l k u r =>
        obtain ⟨hdr, hol, hm⟩ := HR.out
        rw [ef] at hm
        have HMM := Lib.hid hm
        have HEF := Lib.hid ef
        obtain ⟨hokk, hol1, hol2⟩ := okL_node hol
        have HOL := Lib.hid (And.intro hokk (And.intro hol1 hol2))
        obtain ⟨hxi, hdl, hdr2⟩ := nodes_left seed hdr
        have HDL := Lib.hid hdl
        have HDR2 := Lib.hid hdr2
        obtain ⟨nb, off, ka, kc, ua, uc, rfl, hbB, ⟨c0, c1, c2, c3, c4, c5⟩, hbk, hbu⟩ := NL.el (HN.out.keepN HT.out) hxi
        have j1 : (b : Int) < (nn : Int) := by have h := (List.getElem?_eq_some_iff.1 hxi).1; have := HNLEN.out; omega
        have j2 : (0 : Int) ≤ (b : Int) := by omega
        have hbk : BV wr (.slice ka k.length kc) k := hbk
        have hbu : BV wr (.slice ua u.length uc) u := hbu
        replace c0 : wr.cell? ⟨nb, off + b * 6, none⟩ = some (.slice ka k.length kc) := c0
        replace c1 : wr.cell? ⟨nb, off + b * 6 + 1, none⟩ = some (.slice ua u.length uc) := c1
        have HBK := Lib.hid hbk
        have HBU := Lib.hid hbu
        obtain ⟨kl, ekl⟩ : ∃ kl, k.length = kl := ⟨_, rfl⟩
        obtain ⟨ul, eul⟩ : ∃ ul, u.length = ul := ⟨_, rfl⟩
        rw [ekl] at c0 HBK
        rw [eul] at c1 HBU
        obtain ⟨dN, edN⟩ : ∃ dN, (nodeAt seed b l k u r).d = dN := ⟨_, rfl⟩
        obtain ⟨sN, esN⟩ : ∃ sN, (nodeAt seed b l k u r).s = sN := ⟨_, rfl⟩
        obtain ⟨lv, elv⟩ : ∃ lv, (nodeAt seed b l k u r).l = lv := ⟨_, rfl⟩
        obtain ⟨rv, erv⟩ : ∃ rv, (nodeAt seed b l k u r).r = rv := ⟨_, rfl⟩
        rw [edN] at c2
        rw [esN] at c3
        rw [elv] at c4
        rw [erv] at c5
        have HLV := Lib.hid (show childAt l (b + 1) = lv from elv)
        have HRV := Lib.hid (show childAt r (b + 1 + l.size) = rv from erv)
        obtain ⟨dL, edl⟩ : ∃ dL, digT seed l = dL := ⟨_, rfl⟩
        obtain ⟨dR, edr⟩ : ∃ dR, digT seed r = dR := ⟨_, rfl⟩
        have HDLE := Lib.hid edl
        have HDRE := Lib.hid edr
        have HLVC := Lib.hid (show (l = .nil ∧ lv = -1) ∨ (lv = ((b + 1 : Nat) : Int) ∧ ∃ y, N[b + 1]? = some y ∧ y.d = dL) from by
          rw [← HLV.out]
          cases l with
          | nil => exact .inl ⟨rfl, rfl⟩
          | node l9 k9 u9 r9 => exact .inr ⟨rfl, _, (nodes_left seed hdl).1, by rw [← HDLE.out]; rfl⟩)
        have HRVC := Lib.hid (show (r = .nil ∧ rv = -1) ∨ (rv = ((b + 1 + l.size : Nat) : Int) ∧ ∃ y, N[b + 1 + l.size]? = some y ∧ y.d = dR) from by
          rw [← HRV.out]
          cases r with
          | nil => exact .inl ⟨rfl, rfl⟩
          | node l9 k9 u9 r9 => exact .inr ⟨rfl, _, (nodes_left seed hdr2).1, by rw [← HDRE.out]; rfl⟩)
        -- the step
        have HSR := Lib.hid (HS.out.keepN HT.out)
        obtain ⟨pb, po, rfl, hpb, hpc⟩ := HSR.out.cells (by omega)
        have p0 := hpc x hlt 0 (by omega)
        have p1 := hpc x hlt 1 (by omega)
        have p2 := hpc x hlt 2 (by omega)
        have p3 := hpc x hlt 3 (by omega)
        rw [Nat.add_zero] at p0
        have hpk := HSR.out.keys x hlt
        have hpv := HSR.out.vals x hlt
        rw [(HSR.out.left x hlt).1] at p2
        rw [(HSR.out.right x hlt).1] at p3
        have HPK := Lib.hid hpk
        have HPV := Lib.hid hpv
        obtain ⟨a1, k1, e0, _, _⟩ := hpk
        obtain ⟨a2, k2, e1, _, _⟩ := hpv
        rw [e0] at p0 HPK
        rw [e1] at p1 HPV
        have HPO := Lib.hid (HOK.out x hlt)
        obtain ⟨pkl, epk⟩ : ∃ pkl, (kk x).length = pkl := ⟨_, rfl⟩
        obtain ⟨pvl, epv⟩ : ∃ pvl, (vv x).length = pvl := ⟨_, rfl⟩
        rw [epk] at p0 HPK
        rw [epv] at p1 HPV
        obtain ⟨dLx, edlx⟩ : ∃ dLx, dl x = dLx := ⟨_, rfl⟩
        obtain ⟨dRx, edrx⟩ : ∃ dRx, dr x = dRx := ⟨_, rfl⟩
        rw [edlx] at p2
        rw [edrx] at p3
        have HDX := Lib.hid (And.intro edlx edrx)
        clear hpc e0 e1 epk epv edlx edrx hpb hdr hol hm hokk hol1 hol2 hxi hdl hdr2 hbk hbu ekl eul edN esN elv erv edl edr HR ef
        simp only [childAt]
        have hb0 : decide ((b : Int) < 0) = false := by rw [decide_eq_false_iff_not]; omega
        go_upto_region 10 with fail
        have HBX := Lib.hid (show (wr.alloc (.cells #[.slice ka kl kc, .slice ua ul uc, .int .u64 (dN : Int), .int .i64 (sN : Int), .int .i64 lv, .int .i64 rv] 85)).heap[wr.heap.size]? = some (.cells #[.slice ka kl kc, .slice ua ul uc, .int .u64 (dN : Int), .int .i64 (sN : Int), .int .i64 lv, .int .i64 rv] 85 (0, 0)) from heap_alloc_new _ _)
        have HTB := Lib.hid ((Touch.refl Nil wr).alloc (.cells #[.slice ka kl kc, .slice ua ul uc, .int .u64 (dN : Int), .int .i64 (sN : Int), .int .i64 lv, .int .i64 rv] 85))
        obtain ⟨X, eX⟩ : ∃ X, wr.heap.size = X := ⟨_, rfl⟩
        obtain ⟨W2, eW⟩ : ∃ W2, wr.alloc (.cells #[.slice ka kl kc, .slice ua ul uc, .int .u64 (dN : Int), .int .i64 (sN : Int), .int .i64 lv, .int .i64 rv] 85) = W2 := ⟨_, rfl⟩
        rw [eW] at HBX HTB ⊢
        rw [eX] at HBX ⊢
        clear eW eX c0 c1 c2 c3 c4 c5
        obtain ⟨y0, y1, y2, y3, y4, y5⟩ := node6 HBX.out
        have HSTART := Lib.hid (show MetS X pb (po + x * 4) (.slice ka kl kc) (.slice ua ul uc) (.slice a1 pkl k1) (.slice a2 pvl k2) W2 W2.drew from ⟨y0, y1, cell_step p0 HTB.out.drew, cell_step p1 HTB.out.drew, Lib.hid (Touch.refl _ _).drew⟩)
        have HS1 := Lib.hid (fun s : Wld (MetS X pb (po + x * 4) (.slice ka kl kc) (.slice ua ul uc) (.slice a1 pkl k1) (.slice a2 pvl k2) W2) => same_any (HBK.out.keepN (HTB.out.trans s.ok.2.2.2.2.out)) (HPK.out.keepN (HTB.out.trans s.ok.2.2.2.2.out)) (by have := HOL.out.1.2.1; omega) (by have := HPO.out.2.1; omega))
        have HS2 := Lib.hid (fun s : Wld (MetS X pb (po + x * 4) (.slice ka kl kc) (.slice ua ul uc) (.slice a1 pkl k1) (.slice a2 pvl k2) W2) => same_any (HBU.out.keepN (HTB.out.trans s.ok.2.2.2.2.out)) (HPV.out.keepN (HTB.out.trans s.ok.2.2.2.2.out)) (by have := HOL.out.1.2.2; omega) (by have := HPO.out.2.2; omega))
        have f0 := fun s : Wld (MetS X pb (po + x * 4) (.slice ka kl kc) (.slice ua ul uc) (.slice a1 pkl k1) (.slice a2 pvl k2) W2) => s.ok.1
        have f1 := fun s : Wld (MetS X pb (po + x * 4) (.slice ka kl kc) (.slice ua ul uc) (.slice a1 pkl k1) (.slice a2 pvl k2) W2) => s.ok.2.1
        have f2 := fun s : Wld (MetS X pb (po + x * 4) (.slice ka kl kc) (.slice ua ul uc) (.slice a1 pkl k1) (.slice a2 pvl k2) W2) => s.ok.2.2.1
        have f3 := fun s : Wld (MetS X pb (po + x * 4) (.slice ka kl kc) (.slice ua ul uc) (.slice a1 pkl k1) (.slice a2 pvl k2) W2) => s.ok.2.2.2.1
        have P2 := Lib.hid p2
        have P3 := Lib.hid p3
        clear y0 y1 y2 y3 y4 y5 p0 p1 p2 p3
        by_cases hk : k = kk x
        case neg =>
          simp only [decide_eq_false hk] at HS1
          obtain rfl : M = true := by rw [← HMM.out]; exact metT_key (.inl hk)
          clear hk
          have _hne : Nonempty (Wld (MetS X pb (po + x * 4) (.slice ka kl kc) (.slice ua ul uc) (.slice a1 pkl k1) (.slice a2 pvl k2) W2)) := ⟨⟨_, HSTART.out⟩⟩
          refine wp_region_class (S := (MetS X pb (po + x * 4) (.slice ka kl kc) (.slice ua ul uc) (.slice a1 pkl k1) (.slice a2 pvl k2) W2)) HSTART.out (by kernel_rfl) (by kernel_rfl) ?_
          repeat (go_big_quiet_step (first | (go_at_call_of 17 (Value.slice ka kl kc); refine calls_classB (HS1.out _) ?_; intro w' ht; exact MetS.step ht (Wld.ok _))))
          refine wpQuiet_nil ?_
          intro _ hw'
          obtain ⟨sq, hw''⟩ := hw'
          subst hw''
          have HOQ := Lib.hid sq.ok
          obtain ⟨w3, e3⟩ : ∃ w3, sq.w = w3 := ⟨_, rfl⟩
          rw [e3] at HOQ ⊢
          clear e3 sq f0 f1 f2 f3 HS1 HS2
          have HT3 := Lib.hid (HTB.out.trans HOQ.out.2.2.2.2.out)
          go_wp2_with fail
          go_ret
          exact ⟨rfl, HT.out.trans HT3.out⟩
        simp only [decide_eq_true hk] at HS1
        by_cases hu : u = vv x
        case neg =>
          simp only [decide_eq_false hu] at HS2
          obtain rfl : M = true := by rw [← HMM.out]; exact metT_key (.inr hu)
          clear hk hu
          have _hne : Nonempty (Wld (MetS X pb (po + x * 4) (.slice ka kl kc) (.slice ua ul uc) (.slice a1 pkl k1) (.slice a2 pvl k2) W2)) := ⟨⟨_, HSTART.out⟩⟩
          refine wp_region_class (S := (MetS X pb (po + x * 4) (.slice ka kl kc) (.slice ua ul uc) (.slice a1 pkl k1) (.slice a2 pvl k2) W2)) HSTART.out (by kernel_rfl) (by kernel_rfl) ?_
          repeat (go_big_quiet_step (first | (go_at_call_of 17 (Value.slice ka kl kc); refine calls_classB (HS1.out _) ?_; intro w' ht; exact MetS.step ht (Wld.ok _)) | (go_at_call_of 17 (Value.slice ua ul uc); refine calls_classB (HS2.out _) ?_; intro w' ht; exact MetS.step ht (Wld.ok _))))
          refine wpQuiet_nil ?_
          intro _ hw'
          obtain ⟨sq, hw''⟩ := hw'
          subst hw''
          have HOQ := Lib.hid sq.ok
          obtain ⟨w3, e3⟩ : ∃ w3, sq.w = w3 := ⟨_, rfl⟩
          rw [e3] at HOQ ⊢
          clear e3 sq f0 f1 f2 f3 HS1 HS2
          have HT3 := Lib.hid (HTB.out.trans HOQ.out.2.2.2.2.out)
          go_wp2_with fail
          go_ret
          exact ⟨rfl, HT.out.trans HT3.out⟩
        simp only [decide_eq_true hu] at HS2
        have HKU := Lib.hid (And.intro hk hu)
        clear hk hu
        have _hne : Nonempty (Wld (MetS X pb (po + x * 4) (.slice ka kl kc) (.slice ua ul uc) (.slice a1 pkl k1) (.slice a2 pvl k2) W2)) := ⟨⟨_, HSTART.out⟩⟩
        refine wp_region_class (S := (MetS X pb (po + x * 4) (.slice ka kl kc) (.slice ua ul uc) (.slice a1 pkl k1) (.slice a2 pvl k2) W2)) HSTART.out (by kernel_rfl) (by kernel_rfl) ?_
        repeat (go_big_quiet_step (first | (go_at_call_of 17 (Value.slice ka kl kc); refine calls_classB (HS1.out _) ?_; intro w' ht; exact MetS.step ht (Wld.ok _)) | (go_at_call_of 17 (Value.slice ua ul uc); refine calls_classB (HS2.out _) ?_; intro w' ht; exact MetS.step ht (Wld.ok _))))
        refine wpQuiet_nil ?_
        intro _ hw'
        obtain ⟨sq, hw''⟩ := hw'
        subst hw''
        have HOQ := Lib.hid sq.ok
        obtain ⟨w3, e3⟩ : ∃ w3, sq.w = w3 := ⟨_, rfl⟩
        rw [e3] at HOQ ⊢
        clear e3 sq f0 f1 f2 f3 HS1 HS2
        have HT3 := Lib.hid (HTB.out.trans HOQ.out.2.2.2.2.out)
        have HBX3 := Lib.hid (show w3.heap[X]? = some (.cells #[.slice ka kl kc, .slice ua ul uc, .int .u64 (dN : Int), .int .i64 (sN : Int), .int .i64 lv, .int .i64 rv] 85 (0, 0)) from (HOQ.out.2.2.2.2.out.same X (lt_of_heap HBX.out) (fun c => c)).trans HBX.out)
        obtain ⟨y0, y1, y2, y3, y4, y5⟩ := node6 HBX3.out
        have q2 := cell_step P2.out HT3.out
        have q3 := cell_step P3.out HT3.out
        clear HOQ HSTART
        go_upto_if 51 with fail
        go_cut [12, 13] (fun s12 s13 wx => s12 = .int .u64 (dL : Int) ∧ s13 = .int .u64 0 ∧ w3 = wx)
        case first =>
          rcases HLVC.out with ⟨hl, hlv⟩ | ⟨hlv, y, hy, hyd⟩
          · have HDV := Lib.hid (show dL = 0 from by rw [← HDLE.out, hl]; rfl)
            clear hl
            subst hlv
            go_wp2_with fail
            go_meet
            exact ⟨by rw [HDV.out]; rfl, rfl, rfl⟩
          · obtain ⟨j, ej⟩ : ∃ j, b + 1 = j := ⟨_, rfl⟩
            rw [ej] at hlv hy
            have hjn : j < nn := by have h := (List.getElem?_eq_some_iff.1 hy).1; have := HNLEN.out; omega
            obtain ⟨b9, off9, _, _, _, _, e9, _, ⟨_, _, g2, _, _, _⟩, _, _⟩ := NL.el (HN.out.keepN (HT.out.trans HT3.out)) hy
            cases e9
            rw [hyd] at g2
            subst hlv
            have l1 : (j : Int) < (nn : Int) := by omega
            have l2 : (0 : Int) ≤ (j : Int) := by omega
            have l3 : decide ((0 : Int) ≤ (j : Int)) = true := by simp
            clear ej
            go_wp2_with fail
            go_meet
            exact ⟨rfl, rfl, rfl⟩
        case rest =>
        obtain ⟨rfl, rfl, rfl⟩ := hcut
        go_upto_if 60 with fail
        go_cut [12, 13] (fun s12 s13 wx => s12 = .int .u64 (dL : Int) ∧ s13 = .int .u64 (dR : Int) ∧ w3 = wx)
        case first =>
          rcases HRVC.out with ⟨hl, hlv⟩ | ⟨hlv, y, hy, hyd⟩
          · have HDV := Lib.hid (show dR = 0 from by rw [← HDRE.out, hl]; rfl)
            clear hl
            subst hlv
            go_wp2_with fail
            go_meet
            exact ⟨rfl, by rw [HDV.out]; rfl, rfl⟩
          · obtain ⟨j, ej⟩ : ∃ j, b + 1 + l.size = j := ⟨_, rfl⟩
            rw [ej] at hlv hy
            have hjn : j < nn := by have h := (List.getElem?_eq_some_iff.1 hy).1; have := HNLEN.out; omega
            obtain ⟨b9, off9, _, _, _, _, e9, _, ⟨_, _, g2, _, _, _⟩, _, _⟩ := NL.el (HN.out.keepN (HT.out.trans HT3.out)) hy
            cases e9
            rw [hyd] at g2
            subst hlv
            have l1 : (j : Int) < (nn : Int) := by omega
            have l2 : (0 : Int) ≤ (j : Int) := by omega
            have l3 : decide ((0 : Int) ≤ (j : Int)) = true := by simp
            clear ej
            go_wp2_with fail
            go_meet
            exact ⟨rfl, rfl, rfl⟩
        case rest =>
        obtain ⟨rfl, rfl, rfl⟩ := hcut
        by_cases hL : dL = dLx
        case neg =>
          have z1 : ((dL : Int) != (dLx : Int)) = true := by simp; omega
          obtain rfl : M = true := by rw [← HMM.out]; exact metT_dig (.inl (by rw [HDLE.out, HDX.out.1]; exact hL))
          clear hL
          go_wp2_with fail
          go_ret
          exact ⟨rfl, HT.out.trans HT3.out⟩
        have z1 : ((dL : Int) != (dLx : Int)) = false := by simp [hL]
        by_cases hR : dR = dRx
        case neg =>
          have z2 : ((dR : Int) != (dRx : Int)) = true := by simp; omega
          obtain rfl : M = true := by rw [← HMM.out]; exact metT_dig (.inr (by rw [HDRE.out, HDX.out.2]; exact hR))
          clear hL hR
          go_wp2_with fail
          go_ret
          exact ⟨rfl, HT.out.trans HT3.out⟩
        have z2 : ((dR : Int) != (dRx : Int)) = false := by simp [hR]
        have HMN := Lib.hid (show M = if key = k then false else metT seed key kk vv dl dr f (x + 1) (if Lib.compareBytes key k < 0 then l else r) from by
          rw [← HMM.out]; exact metT_at HKU.out.1 HKU.out.2 (by rw [HDLE.out, HDX.out.1]; exact hL) (by rw [HDRE.out, HDX.out.2]; exact hR))
        clear hL hR
        have HQ3 := Lib.hid (HQ.out.keepN (HT.out.trans HT3.out))
        have HB3 := Lib.hid (HBK.out.keepN HT3.out)
        have HCX := Lib.hid (compareV_any HQ3.out HB3.out (by have := HKL.out; omega) (by have := HOL.out.1.2.1; omega))
        have HSM := Lib.hid (fun m => same_any (HQ3.out.keepN ((Touch.refl Nil w3).drewN m)) (HB3.out.keepN ((Touch.refl Nil w3).drewN m)) (by have := HKL.out; omega) (by have := HOL.out.1.2.1; omega))
        have HCN := Lib.hid (cmpR_neg key k)
        obtain ⟨cr, ecr⟩ : ∃ cr, cmpR key k = cr := ⟨_, rfl⟩
        rw [ecr] at HCX HCN
        clear ecr
        by_cases hc : cr < 0
        · have d5 : decide (cr < 0) = true := decide_eq_true hc
          have HC5 := Lib.hid (HCN.out.1 hc)
          clear hc
          by_cases hkk : key = k
          · simp only [decide_eq_true hkk] at HSM
            obtain rfl : M = false := by rw [HMN.out, if_pos hkk]
            clear hkk
            go_wp2_with fail
            refine HCX.out.mono ?_
            rintro e w5 ⟨rfl, m5, rfl⟩
            have s0 := cell_step y0 ((Touch.refl Nil w3).drewN m5)
            have s4 := cell_step y4 ((Touch.refl Nil w3).drewN m5)
            go_wp2_with fail
            refine (HSM.out _).mono ?_
            rintro e w6 ⟨rfl, ht6⟩
            go_wp2_with fail
            go_ret
            exact ⟨rfl, (HT.out.trans (HT3.out.drewN _)).trans ht6⟩
          · simp only [decide_eq_false hkk] at HSM
            have HM2 := Lib.hid (show metT seed key kk vv dl dr f (x + 1) l = M from by rw [HMN.out, if_neg hkk, if_pos HC5.out])
            clear hkk
            go_wp2_with fail
            refine HCX.out.mono ?_
            rintro e w5 ⟨rfl, m5, rfl⟩
            have s0 := cell_step y0 ((Touch.refl Nil w3).drewN m5)
            have s4 := cell_step y4 ((Touch.refl Nil w3).drewN m5)
            go_wp2_with fail
            refine (HSM.out _).mono ?_
            rintro e w6 ⟨rfl, ht6⟩
            have HT6 := Lib.hid ((HT.out.trans (HT3.out.drewN m5)).trans ht6)
            clear ht6
            go_wp2_with fail
            go_roundw
            case rel => exact ⟨x + 1, b + 1, l, _, by omega, (show Value.int .i64 lv = .int .i64 (childAt l (b + 1)) from by rw [HLV.out]), by go_num, Lib.hid ⟨HDL.out, HOL.out.2.1, by rw [show n - (x + 1) = f by have := HEF.out; omega]; exact HM2.out⟩, HT6.out⟩
            case measure => simp [intOf] <;> omega
        · have d5 : decide (cr < 0) = false := decide_eq_false hc
          have HC5 := Lib.hid (fun h => hc (HCN.out.2 h))
          clear hc
          by_cases hkk : key = k
          · simp only [decide_eq_true hkk] at HSM
            obtain rfl : M = false := by rw [HMN.out, if_pos hkk]
            clear hkk
            go_wp2_with fail
            refine HCX.out.mono ?_
            rintro e w5 ⟨rfl, m5, rfl⟩
            have s0 := cell_step y0 ((Touch.refl Nil w3).drewN m5)
            go_wp2_with fail
            refine (HSM.out _).mono ?_
            rintro e w6 ⟨rfl, ht6⟩
            go_wp2_with fail
            go_ret
            exact ⟨rfl, (HT.out.trans (HT3.out.drewN _)).trans ht6⟩
          · simp only [decide_eq_false hkk] at HSM
            have HM2 := Lib.hid (show metT seed key kk vv dl dr f (x + 1) r = M from by rw [HMN.out, if_neg hkk, if_neg HC5.out])
            clear hkk
            go_wp2_with fail
            refine HCX.out.mono ?_
            rintro e w5 ⟨rfl, m5, rfl⟩
            have s0 := cell_step y0 ((Touch.refl Nil w3).drewN m5)
            go_wp2_with fail
            refine (HSM.out _).mono ?_
            rintro e w6 ⟨rfl, ht6⟩
            have HT6 := Lib.hid ((HT.out.trans (HT3.out.drewN m5)).trans ht6)
            clear ht6
            go_wp2_with fail
            go_roundw
            case rel => exact ⟨x + 1, b + 1 + l.size, r, _, by omega, (show Value.int .i64 rv = .int .i64 (childAt r (b + 1 + l.size)) from by rw [HRV.out]), by go_num, Lib.hid ⟨HDR2.out, HOL.out.2.2, by rw [show n - (x + 1) = f by have := HEF.out; omega]; exact HM2.out⟩, HT6.out⟩
            case measure => simp [intOf] <;> omega
    · obtain rfl : x = n := by omega
      have HFM := Lib.hid (show M = decide ((0 : Int) ≤ childAt s b) from by
        have h := HR.out.2.2
        rw [Nat.sub_self] at h
        rw [← h]
        cases s with
        | nil => rfl
        | node l k u r => simp [metT, childAt])
      clear HR
      generalize childAt s b = c at *
      go_wp2_with fail
      go_ret
      exact ⟨by rw [HFM.out]; rfl, HT.out⟩
end Go.Proofs.Ytejiijbmmpahhab
