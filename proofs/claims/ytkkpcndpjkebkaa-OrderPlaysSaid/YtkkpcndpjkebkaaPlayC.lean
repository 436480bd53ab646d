import Derived.Test.YtkkpcndpjkebkaaSpoil
import Derived.Test.YtkkpcndpjkebkaaRefG
import Derived.Test.YtkkpcndpjkebkaaMapW
import Derived.Test.YtkkpcndpjkebkaaLawP
import Derived.Test.YtkkpcndpjkebkaaPart
/- The pair at a place, and what it is (for OrderPlays). -/
namespace Go.Proofs.Ytkkpcndpjkebkaa
open Go.ChangeShapes Go.WideShapes Go.ChangeAt Go.RowKit Go.Deep

/-- What stands at a place. -/
def lookF (L : Pairs) (z : Int) : Option (Key × Key) := if z < 0 then none else L[z.toNat]?
theorem lookF_left {l r : Pairs} {p : Key × Key} {z : Int} (h : z < (l.length : Int)) : lookF (l ++ p :: r) z = lookF l z := by
  unfold lookF
  by_cases c : z < 0
  · rw [if_pos c, if_pos c]
  · rw [if_neg c, if_neg c, List.getElem?_append_left (by omega)]
theorem lookF_at {l r : Pairs} {p : Key × Key} : lookF (l ++ p :: r) (l.length : Int) = some p := by
  unfold lookF
  rw [if_neg (by omega), Int.toNat_natCast, List.getElem?_append_right (Nat.le_refl _), Nat.sub_self]
  rfl
theorem lookF_right {l r : Pairs} {p : Key × Key} {z : Int} (h : (l.length : Int) < z) : lookF (l ++ p :: r) z = lookF r (z - ((l.length : Int) + 1)) := by
  unfold lookF
  rw [if_neg (by omega), if_neg (by omega), List.getElem?_append_right (by omega), show z.toNat - l.length = (z - ((l.length : Int) + 1)).toNat + 1 by omega, List.getElem?_cons_succ]
theorem lookF_nil (z : Int) : lookF [] z = none := by unfold lookF; split <;> simp
/-- The node at a place. -/
def AtV (seed : Int) (R : Nat → Prop) (w : World) (o : Option (Key × Key)) (v : Value) : Prop := match o with
  | none => v = .pointer none
  | some p => ∃ b iv la ra l r, v = .pointer (some ⟨b, 0, none⟩) ∧ NodeV seed R w b iv la ra l p.1 p.2 r
set_option maxRecDepth 100000 in
set_option maxHeartbeats 2000000 in
theorem atV_any {seed : Int} {R : Nat → Prop} {w : World} {t : Tree} {v : Value} {i : Int} (h : TreeAt seed R w t v) (hi : -9223372036854775808 ≤ i ∧ i ≤ 9223372036854775807) (hz : t.size ≤ 100000) :
    Calls Try.prog 99 #[v, .int .i64 i] w (fun e w' => ∃ v', e = .returned v' ∧ AtV seed R w (lookF t.toL i) v' ∧ w = w') := by
  have HH := Lib.hid h
  have HZ := Lib.hid hz
  obtain ⟨va, rfl⟩ := h.form
  have HI := Lib.hid hi
  clear h hi hz
  go_enter Try.func99, Try.ntmps99
  go_wp2_with fail
  go_loopg [0, 1] t.size (fun m n j wr => w = wr ∧ ∃ (a : Option Addr) (s : Tree) (z : Int), n = .pointer a ∧ j = .int .i64 z ∧ Hid (TreeAt seed R w s (.pointer a) ∧ s.size ≤ m ∧ lookF s.toL z = lookF t.toL i) ∧ (-9223372036854775808 ≤ z ∧ z ≤ 9223372036854775807) ∧ s.size ≤ 100000)
  case atStart => exact ⟨rfl, _, t, i, rfl, rfl, Lib.hid ⟨HH.out, Nat.le_refl _, rfl⟩, HI.out, HZ.out⟩
  obtain ⟨rfl, a, s, z, rfl, rfl, HX, hzb, hs⟩ := hrel
  cases s with
  | nil =>
    obtain rfl : a = none := by have h : Value.pointer a = .pointer none := HX.out.1; injection h
    go_wp2_with fail
    go_ret
    exact ⟨_, rfl, by rw [← HX.out.2.2, Tree.toL, lookF_nil]; rfl, rfl⟩
  | node l k u r =>
    obtain ⟨b, ib, la, ra, hb, hn⟩ := HX.out.1.node
    injection hb with hb
    subst hb
    have HNV := Lib.hid hn
    obtain ⟨x0, x1, x2, x3, x4⟩ := node_cells hn.blk
    have HSL := Lib.hid (sizeOf_any hn.left)
    have HSZ := Lib.hid HX.out.2.1
    have HLK := Lib.hid (show lookF (l.toL ++ (k, u) :: r.toL) z = lookF t.toL i from HX.out.2.2)
    have hs' : l.size + 1 + r.size ≤ 100000 := hs
    obtain ⟨ls, els⟩ : ∃ ls, l.size = ls := ⟨_, rfl⟩
    have HLS := Lib.hid els
    have HLL := Lib.hid (show (l.toL.length : Int) = (ls : Int) from by rw [← size_toL, els])
    rw [els] at HSL hs'
    clear x0 x1 x2 hn els hs
    by_cases he : z = (ls : Int)
    · subst he
      have q1 : ((ls : Int) != (ls : Int)) = false := by simp
      go_wp2_with fail
      refine HSL.out.mono ?_
      rintro e w' ⟨rfl, rfl⟩
      go_wp2_with fail
      go_ret
      exact ⟨_, rfl, by rw [← HLK.out, ← HLL.out, lookF_at]; exact ⟨b, _, la, ra, l, r, rfl, HNV.out⟩, rfl⟩
    · have q1 : (z != (ls : Int)) = true := by simp; omega
      by_cases hlt : z < (ls : Int)
      · have q2 : decide (z < (ls : Int)) = true := by simp; omega
        go_wp2_with fail
        refine HSL.out.mono ?_
        rintro e w' ⟨rfl, rfl⟩
        go_wp2_with fail
        refine HSL.out.mono ?_
        rintro e w' ⟨rfl, rfl⟩
        go_wp2_with fail
        go_roundg l.size
        case measure => have := HSZ.out; simp only [Tree.size] at this; omega
        case rel => exact ⟨rfl, la, l, z, rfl, rfl, Lib.hid ⟨HNV.out.left, Nat.le_refl _, by rw [← HLK.out, lookF_left (by rw [HLL.out]; exact hlt)]⟩, hzb, by have := HLS.out; omega⟩
      · have q2 : decide (z < (ls : Int)) = false := by simp; omega
        have HGT := Lib.hid (show (ls : Int) < z from by omega)
        have hgt : (ls : Int) < z := by omega
        go_wp2_with fail
        refine HSL.out.mono ?_
        rintro e w' ⟨rfl, rfl⟩
        go_wp2_with fail
        refine HSL.out.mono ?_
        rintro e w' ⟨rfl, rfl⟩
        go_wp2_with fail
        refine HSL.out.mono ?_
        rintro e w' ⟨rfl, rfl⟩
        go_wp2_with fail
        go_roundg r.size
        case measure => have := HSZ.out; simp only [Tree.size] at this; omega
        case rel => exact ⟨rfl, ra, r, z - ((ls : Int) + 1), rfl, rfl, Lib.hid ⟨HNV.out.right, Nat.le_refl _, by rw [← HLK.out, lookF_right (by rw [HLL.out]; exact HGT.out), HLL.out]⟩, by omega, by omega⟩
/-- What At returns. -/
def AtMP (o : Option (Key × Key)) (w : World) (e : Ending) (w' : World) : Prop := match o with
  | none => e = .returned (.tuple #[.agg #[.slice none 0 0, .slice none 0 0], .int .i64 3]) ∧ Touch Nil w w'
  | some p => ∃ kx ux, e = .returned (.tuple #[.agg #[kx, ux], .int .i64 0]) ∧ OwnB w.heap.size w' kx p.1 ∧ OwnB w.heap.size w' ux p.2 ∧ Touch Nil w w'
set_option maxRecDepth 100000 in
set_option maxHeartbeats 2000000 in
theorem atV_map {seed : Int} {R : Nat → Prop} {w : World} {mb bb : Nat} {ra : Option Addr} {t : Tree} (h : MapAt seed R w mb bb ra t) {i : Int} (hi : -9223372036854775808 ≤ i ∧ i ≤ 9223372036854775807) :
    Calls Try.prog 53 #[.pointer (some ⟨mb, 0, none⟩), .int .i64 i] w (AtMP (lookF t.toL i) w) := by
  have HM := Lib.hid (fun w' (ht : Touch Nil w w') => root_map (h.keepN ht))
  have HA := Lib.hid (fun w' (ht : Touch Nil w w') => atV_any (h.keepN ht).tree hi h.size)
  clear h hi
  go_enter Try.func53, Try.ntmps53
  go_wp2_with fail
  obtain ⟨w1, ew1⟩ : ∃ w1, w.alloc (.cells #[.slice none 0 0, .slice none 0 0] 45) = w1 := ⟨_, rfl⟩
  have HT1 := Lib.hid (show Touch Nil w w1 from by rw [← ew1]; exact (Touch.refl Nil w).alloc _)
  have HG1 := Lib.hid (show ToldP w.heap.size w1 from by rw [← ew1]; exact ⟨heap_alloc_new _ _⟩)
  rw [ew1]
  clear ew1
  refine (HM.out _ HT1.out).mono ?_
  rintro e w' ⟨rfl, rfl⟩
  go_wp2_with fail
  refine (HA.out _ HT1.out).mono ?_
  rintro e w' ⟨v, rfl, hav, rfl⟩
  obtain ⟨o, eo⟩ : ∃ o, lookF t.toL i = o := ⟨_, rfl⟩
  rw [eo] at hav
  have EO := Lib.hid eo
  clear eo
  rcases o with _ | ⟨k, u⟩
  · obtain rfl : v = .pointer none := hav
    obtain ⟨g, eg⟩ : ∃ g, w.heap.size = g := ⟨_, rfl⟩
    have HEG := Lib.hid eg
    rw [eg] at HG1 ⊢
    obtain ⟨z0, z1, f0, f1⟩ := HG1.out.cells
    clear eg
    go_wp2_with fail
    have hg3 : ((w1.setCell ⟨g, 0, none⟩ (.slice none 0 0)).setCell ⟨g, 1, none⟩ (.slice none 0 0)).heap[g]? = some (.cells #[.slice none 0 0, .slice none 0 0] 45 (0, 0)) := stHeap2 HG1.out.blk
    have hld : (loadVar 45 ⟨g, 0, none⟩).run Try.prog ((w1.setCell ⟨g, 0, none⟩ (.slice none 0 0)).setCell ⟨g, 1, none⟩ (.slice none 0 0)) = .ok (.agg #[.slice none 0 0, .slice none 0 0]) ((w1.setCell ⟨g, 0, none⟩ (.slice none 0 0)).setCell ⟨g, 1, none⟩ (.slice none 0 0)) :=
      run_loadVar_row _ g 45 45 _ _ _ hg3 Try.underlying45 rfl (by kernel_rfl)
    (try simp only [Exit.inBlock, Exit.then])
    refine bodyPost_ret (v := .tuple #[.agg #[.slice none 0 0, .slice none 0 0], .int .i64 3]) ?_ rfl ?_
    · rw [results_cell_tmp rfl]
      simp [asAddr, Result.andThen, hld]
    · rw [EO.out]
      exact ⟨rfl, HT1.out.trans' (stTouch2 (Touch.refl (Just g) w1)) fun b hb hs => by have hs : b = g := hs; have := HEG.out; omega⟩
  obtain ⟨b, iv, la, rb, l, r, rfl, hn⟩ := hav
  have hn : NodeV seed R w1 b iv la rb l k u r := hn
  obtain ⟨ib, kv, uv, rfl, _, hih, hmk, hmu, hok⟩ := hn.item
  obtain ⟨x0, _, _⟩ := node_cells hn.blk
  obtain ⟨y0, y1, _⟩ := item_cells hih
  have HCK := Lib.hid (fun w' (ht : Touch Nil w1 w') => bytesClone_any _ k w' (hmk.bv.keepN ht) (by have := hok.2.1; omega))
  have HCU := Lib.hid (fun w' (ht : Touch Nil w1 w') => bytesClone_any _ u w' (hmu.bv.keepN ht) (by have := hok.2.2; omega))
  have HLK := Lib.hid (show k.length ≤ 1073741824 ∧ u.length ≤ 1073741824 from by have := hok.2; omega)
  obtain ⟨ka, kl, kc, rfl⟩ := hmk.1.form
  obtain ⟨ua, ul, uc, rfl⟩ := hmu.1.form
  obtain ⟨g, eg⟩ : ∃ g, w.heap.size = g := ⟨_, rfl⟩
  have HEG := Lib.hid eg
  rw [eg] at HG1
  have hbg : b ≠ g := fun e => by
    have h1 := hn.blk
    rw [e, HG1.out.blk] at h1
    injection h1 with h1
    injection h1 with _ h1 _
    exact absurd h1 (by decide)
  have hig : ib ≠ g := fun e => by
    rw [e, HG1.out.blk] at hih
    injection hih with h1
    injection h1 with _ h1 _
    exact absurd h1 (by decide)
  have HST := Lib.hid (fun w' (ht : Touch (Just g) w1 w') => show w'.cell? ⟨b, 0, none⟩ = some (.pointer (some ⟨ib, 0, none⟩)) ∧ w'.cell? ⟨ib, 0, none⟩ = some (.slice ka kl kc) ∧ w'.cell? ⟨ib, 1, none⟩ = some (.slice ua ul uc) ∧ Hid (Touch (Just g) w1 w') from
    ⟨(ht.cell (World.block_lt_of_cell? w1 _ x0) hbg 0).trans x0, (ht.cell (World.block_lt_of_cell? w1 _ y0) hig 0).trans y0, (ht.cell (World.block_lt_of_cell? w1 _ y1) hig 1).trans y1, Lib.hid ht⟩)
  clear hn hih hmk hmu hok x0 y0 y1 eg
  try rw [HEG.out]
  go_wp2_with fail
  go_region_held3 (fun w' => w'.cell? ⟨b, 0, none⟩ = some (.pointer (some ⟨ib, 0, none⟩)) ∧ w'.cell? ⟨ib, 0, none⟩ = some (.slice ka kl kc) ∧ w'.cell? ⟨ib, 1, none⟩ = some (.slice ua ul uc) ∧ Hid (Touch (Just g) w1 w'))
    (first | (with_reducible exact HST.out _ (Touch.refl (Just g) w1).drew) | (with_reducible exact HST.out _ (stTouch2 hT4.of_nil)) | (with_reducible exact HST.out _ hT4.of_nil) | (with_reducible exact HST.out _ hT3.of_nil))
    (first
      | (go_at_call_of 69 (Value.slice ka kl kc); refine (HCK.out _ (Touch.refl Nil w1).drew).mono ?_; rintro e w3 ⟨v3, rfl, h3, ht3⟩; obtain ⟨va3, vl3, vc3, rfl⟩ := h3.form; have hT3 : Touch Nil w1 w3 := (Touch.refl Nil w1).drew.trans ht3; have H3 := Lib.hid h3; clear h3 ht3)
      | (go_at_call_of 69 (Value.slice ua ul uc); refine (HCU.out _ hT3).mono ?_; rintro e w4 ⟨v4, rfl, h4, ht4⟩; obtain ⟨va4, vl4, vc4, rfl⟩ := h4.form; have hT4 : Touch Nil w1 w4 := hT3.trans ht4; have H4 := Lib.hid h4; have HK4 := Lib.hid (H3.out.keep ht4 (fun _ _ c => c)); have HG4 := Lib.hid (HG1.out.step hT4); obtain ⟨z0, z1, f0, f1⟩ := HG4.out.cells; clear h4 ht4))
  go_wp2_with fail
  have hle : w.heap.size ≤ w1.heap.size := HT1.out.size
  have hg3 : ((w4.setCell ⟨g, 0, none⟩ (.slice va3 vl3 vc3)).setCell ⟨g, 1, none⟩ (.slice va4 vl4 vc4)).heap[g]? = some (.cells #[.slice va3 vl3 vc3, .slice va4 vl4 vc4] 45 (0, 0)) := stHeap2 HG4.out.blk
  have hld : (loadVar 45 ⟨g, 0, none⟩).run Try.prog ((w4.setCell ⟨g, 0, none⟩ (.slice va3 vl3 vc3)).setCell ⟨g, 1, none⟩ (.slice va4 vl4 vc4)) = .ok (.agg #[.slice va3 vl3 vc3, .slice va4 vl4 vc4]) ((w4.setCell ⟨g, 0, none⟩ (.slice va3 vl3 vc3)).setCell ⟨g, 1, none⟩ (.slice va4 vl4 vc4)) :=
    run_loadVar_row _ g 45 45 _ _ _ hg3 Try.underlying45 rfl (by kernel_rfl)
  (try simp only [Exit.inBlock, Exit.then])
  refine bodyPost_ret (v := .tuple #[.agg #[.slice va3 vl3 vc3, .slice va4 vl4 vc4], .int .i64 0]) ?_ rfl ?_
  · rw [results_cell_tmp rfl]
    simp [asAddr, Result.andThen, hld]
  · rw [EO.out]
    refine ⟨_, _, rfl, OwnB.base (stOwn2 HK4.out HG4.out) hle, OwnB.base (stOwn2 H4.out HG4.out) (Nat.le_trans hle hT3.size), ?_⟩
    exact (HT1.out.trans hT4).trans' (stTouch2 (Touch.refl (Just g) w4)) fun b hb hs => by have hs : b = g := hs; have := HEG.out; omega
end Go.Proofs.Ytkkpcndpjkebkaa

/- What OrderPlays wants besides: the definition's Drop, the rank of a key in a map. -/
namespace Go.Proofs.Ytkkpcndpjkebkaa
open Go.ChangeShapes Go.WideShapes Go.ChangeAt Go.RowKit Go.Deep

/-- The definition's list without a key. -/
def dropF (key : Key) (L : Pairs) : Pairs := if hasF key L = true then L.take (rankF key L) ++ L.drop (rankF key L + 1) else L
theorem dropF_del (key : Key) {L : Pairs} (h : Srt L) : dropF key L = delL key L := by
  unfold dropF
  cases hh : hasF key L with
  | false =>
    rw [if_neg (by simp)]
    have hno : ∀ p ∈ L, p.1 ≠ key := fun p hp e => by
      have := (hasF_iff (key := key) h).2 ⟨p.2, by rw [← e]; exact hp⟩
      rw [hh] at this; cases this
    unfold delL
    rw [filter_all]
    intro x hx
    rcases klt_ko.tot x.1 key (hno x hx) with c | c <;> simp [c]
  | true =>
    rw [if_pos rfl]
    obtain ⟨p, hp, hk⟩ := hasF_at hh
    obtain ⟨e1, e2⟩ := rank_parts key h
    have hd : L.drop (rankF key L) = p :: L.drop (rankF key L + 1) := by
      have hlt := (List.getElem?_eq_some_iff.1 hp).1
      rw [List.drop_eq_getElem_cons hlt, (List.getElem?_eq_some_iff.1 hp).2]
    have hge : ∀ x ∈ L.drop (rankF key L), klt x.1 key = false := fun x hx => by rw [e2, List.mem_filter] at hx; simpa using hx.2
    have hsd : Srt (L.drop (rankF key L)) := List.Pairwise.sublist (List.drop_sublist _ _) h
    have h3 : L.drop (rankF key L + 1) = (L.drop (rankF key L)).filter (fun x => klt key x.1) := (ge_parts key hsd hge).1 p _ hd hk
    rw [e1, h3, e2]
    unfold delL
    have hsplit : ∀ M : Pairs, Srt M → M.filter (fun x => klt x.1 key || klt key x.1) = M.filter (fun x => klt x.1 key) ++ (M.filter (fun x => !klt x.1 key)).filter (fun x => klt key x.1) := by
      intro M
      induction M with
      | nil => intro _; rfl
      | cons q M ih =>
        intro hs
        unfold Srt at hs
        rw [List.pairwise_cons] at hs
        have ih := ih hs.2
        simp only [List.filter_cons]
        by_cases c : klt q.1 key = true
        · simp only [c, Bool.true_or, if_true, Bool.not_true, Bool.false_eq_true, if_false, List.cons_append]
          rw [ih]
        · have c' : klt q.1 key = false := by simpa using c
          have hnone : M.filter (fun x => klt x.1 key) = [] := filter_none fun x hx => by
            have h1 := hs.1 x hx
            cases hc : klt x.1 key with
            | false => rfl
            | true => rw [klt_ko.trans _ _ _ h1 hc] at c'; cases c'
          rw [hnone, List.nil_append] at ih
          simp only [c', Bool.false_or, Bool.false_eq_true, if_false, Bool.not_false, if_true, List.filter_cons, hnone, List.nil_append]
          split
          · rw [ih]
          · rw [ih]
    exact (hsplit L h).symm
set_option maxRecDepth 100000 in
set_option maxHeartbeats 4000000 in
theorem dropR_any {w : World} {x kx : Value} {L : Pairs} {key : Key} (h : PL w x L) (hs : Short L) (hn : L.length ≤ 1000000) (hk : BV w kx key) (hkl : key.length ≤ 1000000) :
    Calls Try.prog 61 #[x, kx] w (ListP (dropF key L) w) := by
  have HHAS := Lib.hid (hasR_any h hs hn hk hkl)
  have HRK := Lib.hid (fun w' (ht : Touch Nil w w') => rankR_any (h.keepN ht) hs hn (hk.keepN ht) hkl)
  obtain ⟨ao, cap, rfl⟩ := h.form
  have HP := Lib.hid h
  obtain ⟨qa, qc, rfl⟩ := hk.len'
  have HLE := Lib.hid (rankF_le key L)
  have HHL := Lib.hid (show hasF key L = true → rankF key L + 1 ≤ L.length from fun hh => by
    obtain ⟨p, hp, _⟩ := hasF_at hh
    exact (List.getElem?_eq_some_iff.1 hp).1)
  have HDF := Lib.hid (show dropF key L = if hasF key L = true then L.take (rankF key L) ++ L.drop (rankF key L + 1) else L from rfl)
  obtain ⟨ch, cc, hcut, hrt⟩ := h.cut_h slPair szPair (m := rankF key L) HLE.out
  have HRT := Lib.hid hrt
  have HLT := Lib.hid (show (L.take (rankF key L)).length = rankF key L by rw [List.length_take]; have := HLE.out; omega)
  have HCL := Lib.hid (fun m (hm : m ≤ L.length) => h.cut_l slPair szPair (m := m) hm)
  have HE : ∃ n, L.length = n := ⟨_, rfl⟩
  obtain ⟨n, en⟩ := HE
  rw [en] at HP hn HHAS HLE HHL hcut ⊢
  simp only [en] at HRK HCL
  have HN := Lib.hid en
  generalize hasF key L = q at *
  generalize rankF key L = r at *
  generalize hTK : L.take r = TK at *
  have hr := HLE.out
  have HNN := Lib.hid hn
  generalize key.length = kl at *
  clear h hs hk en hrt hTK hkl
  go_enter Try.func61, Try.ntmps61
  go_wp2_with fail
  refine HHAS.out.mono ?_
  rintro e w1 ⟨rfl, ht1⟩
  have HT1 := Lib.hid ht1
  clear ht1 HHAS
  cases q with
  | false =>
    go_wp2_with fail
    go_ret
    exact ⟨_, rfl, by rw [HDF.out]; exact HP.out.keepN HT1.out, HT1.out⟩
  | true =>
    have hr1 := HHL.out rfl
    go_wp2_with fail
    refine (HRK.out _ HT1.out).mono ?_
    rintro e w2 ⟨rfl, ht2⟩
    have HT2 := Lib.hid (HT1.out.trans ht2)
    clear ht2 HRK HT1
    go_wp2_with (refine wpList_append_rl rfl (.tmp 15) (.tmp 18) rfl (.agg #[.slice none 0 0, .slice none 0 0]) Try.underlying26 infoPair rfl (by decide) (by decide) (by decide) (.slice none 0 0) (.slice ch r cc) rfl (OL.nil (base := w.heap.size)) rfl w HRT.out HT2.out (Nat.le_refl _) ?p1 HT2.out.size ?p2)
    case p1 => rw [HLT.out]; simp; have := HNN.out; omega
    intro v3 w3 ho3 ht3
    have HO3 := Lib.hid (show PO w.heap.size w3 v3 TK from by simpa using ho3.out)
    have HT3 := Lib.hid (show Touch Nil w w3 from HT2.out.trans' ht3.out fun b hb hs => by cases hs)
    obtain ⟨va3, vl3, vc3, rfl⟩ := HO3.out.form3
    clear ho3 ht3 hcut
    obtain ⟨dh, dc, hcut, hrd⟩ := HCL.out (r + 1) hr1
    have HRD := Lib.hid hrd
    have hca : ((r + 1 : Nat) : Int) = (r : Int) + 1 := by omega
    rw [hca] at hcut
    clear hrd hca
    go_wp2_with (refine wpList_append_rl rfl (.tmp 20) (.tmp 24) rfl (.agg #[.slice none 0 0, .slice none 0 0]) Try.underlying26 infoPair rfl (by decide) (by decide) (by decide) (.slice va3 vl3 vc3) (.slice dh (n - (r + 1)) dc) rfl HO3.out rfl w HRD.out HT3.out (Nat.le_refl _) ?r1 HT3.out.size ?r2)
    case r1 => rw [List.length_drop]; have := HLT.out; have := HNN.out; have := HN.out; omega
    intro v7 w7 ho7 ht7
    have HO7 := Lib.hid ho7.out.rl
    have HT7 := Lib.hid (show Touch Nil w w7 from HT3.out.trans' ht7.out fun b hb hs => by have := HO3.out.base' b hs; omega)
    obtain ⟨va7, vl7, vc7, rfl⟩ := HO7.out.form3
    clear ho7 ht7 hcut
    go_wp2_with fail
    go_ret
    exact ⟨_, rfl, by rw [HDF.out]; exact HO7.out, HT7.out⟩
/-- How many keys of a tree are less. -/
theorem rank_node {seed : Int} {l r : Tree} {k u key : Key} (h : Srt (Tree.node l k u r).toL) : rankF key (Tree.node l k u r).toL = if klt k key = true then l.size + 1 + rankF key r.toL else rankF key l.toL := by
  obtain ⟨s1, s2, a1, a2⟩ := srt_node.1 h
  have app : ∀ (A B : Pairs), (∀ x ∈ A, klt x.1 key = true) → rankF key (A ++ B) = A.length + rankF key B := by
    intro A
    induction A with
    | nil => intro B _; simp
    | cons p A ih => intro B hA; simp only [List.cons_append, rankF, hA p (by simp), if_true, ih B (fun x hx => hA x (by simp [hx])), List.length_cons]; omega
  have stop : ∀ (A B : Pairs), (∀ x ∈ B, klt x.1 key = false) → rankF key (A ++ B) = rankF key A := by
    intro A
    induction A with
    | nil =>
      intro B hB
      cases B with
      | nil => rfl
      | cons q B => simp [rankF, hB q (by simp)]
    | cons p A ih => intro B hB; simp only [List.cons_append, rankF, ih B hB]
  simp only [Tree.toL]
  by_cases c : klt k key = true
  · rw [if_pos c, app _ _ (fun x hx => klt_ko.trans _ _ _ (a1 x hx) c), ← size_toL]
    simp only [rankF, c, if_true]
    omega
  · have c' : klt k key = false := by simpa using c
    rw [if_neg c, stop]
    intro x hx
    rcases List.mem_cons.1 hx with rfl | hx
    · exact c'
    · cases hc : klt x.1 key with
      | false => rfl
      | true => rw [klt_ko.trans _ _ _ (a2 x hx) hc] at c'; cases c'
set_option maxRecDepth 100000 in
set_option maxHeartbeats 2000000 in
theorem rank_any {seed : Int} {R : Nat → Prop} {w : World} {t : Tree} {v kx : Value} {key : Key} (h : TreeAt seed R w t v) (hs : Srt t.toL) (hz : t.size ≤ 100000) (hk : BV w kx key) :
    Calls Try.prog 100 #[v, kx] w (fun e w' => e = .returned (.int .i64 ((rankF key t.toL : Nat) : Int)) ∧ w = w') := by
  have HK := Lib.hid hk
  have HH := Lib.hid h
  have HSR := Lib.hid hs
  have HZ := Lib.hid hz
  obtain ⟨qa, qc, rfl, _, _⟩ := hk
  have HE : ∃ ql, key.length = ql := ⟨_, rfl⟩
  obtain ⟨ql, eql⟩ := HE
  rw [eql] at HK ⊢
  obtain ⟨va, rfl⟩ := h.form
  clear h hs hz eql
  go_enter Try.func100, Try.ntmps100
  go_wp2_with fail
  go_loopg [0, 5] t.size (fun m n j wr => w = wr ∧ ∃ (a : Option Addr) (s : Tree) (y : Nat), n = .pointer a ∧ j = .int .i64 (y : Int) ∧ Hid (TreeAt seed R w s (.pointer a) ∧ Srt s.toL ∧ s.size ≤ m ∧ y + rankF key s.toL = rankF key t.toL) ∧ y + s.size ≤ 100000)
  case atStart => exact ⟨rfl, _, t, 0, rfl, rfl, Lib.hid ⟨HH.out, HSR.out, Nat.le_refl _, Nat.zero_add _⟩, by have := HZ.out; omega⟩
  obtain ⟨rfl, a, s, y, rfl, rfl, HX, hy⟩ := hrel
  cases s with
  | nil =>
    obtain rfl : a = none := by have h : Value.pointer a = .pointer none := HX.out.1; injection h
    go_wp2_with fail
    go_ret
    exact ⟨by have h := HX.out.2.2.2; simp only [Tree.toL, rankF, Nat.add_zero] at h; rw [h]; rfl, rfl⟩
  | node l k u r =>
    obtain ⟨b, ib, la, ra, hb, hn⟩ := HX.out.1.node
    injection hb with hb
    subst hb
    have HNV := Lib.hid hn
    obtain ⟨_, kv, uv, e, _, hih, hmk, _, _⟩ := hn.item
    cases e
    obtain ⟨x0, x1, x2, x3, x4⟩ := node_cells hn.blk
    obtain ⟨y0, _, _⟩ := item_cells hih
    have HSL := Lib.hid (sizeOf_any hn.left)
    obtain ⟨s1, s2, _, _⟩ := srt_node.1 HX.out.2.1
    have HSS := Lib.hid (And.intro s1 s2)
    have HRN := Lib.hid (rank_node (seed := seed) (key := key) HX.out.2.1)
    have HSZ := Lib.hid HX.out.2.2.1
    have hy' : y + (l.size + 1 + r.size) ≤ 100000 := hy
    obtain ⟨ls, els⟩ : ∃ ls, l.size = ls := ⟨_, rfl⟩
    have HLS := Lib.hid els
    rw [els] at HSL hy'
    obtain ⟨z, ez⟩ : ∃ z, Lib.compareBytes k key = z := ⟨_, rfl⟩
    have HCM := Lib.hid (compareP_any hmk.bv HK.out)
    rw [ez] at HCM
    have hkz : klt k key = decide (z < 0) := by unfold klt; rw [ez]
    have HKZ := Lib.hid hkz
    obtain ⟨ka, kl, kc, rfl⟩ := hmk.1.form
    clear hih hmk x1 x2 hn els hy ez s1 s2 hkz
    by_cases hz : z < 0
    · have q1 : decide (z < 0) = true := by simpa using hz
      go_wp2_with fail
      refine HCM.out.mono ?_
      rintro e w' ⟨rfl, rfl⟩
      go_wp2_with fail
      refine HSL.out.mono ?_
      rintro e w' ⟨rfl, rfl⟩
      go_wp2_with fail
      go_roundg r.size
      case measure => have := HSZ.out; simp only [Tree.size] at this; omega
      case rel => exact ⟨rfl, ra, r, y + (ls + 1), rfl, by congr 1, Lib.hid ⟨HNV.out.right, HSS.out.2, Nat.le_refl _, by have h := HX.out.2.2.2; rw [HRN.out, if_pos (by rw [HKZ.out, q1]), HLS.out] at h; omega⟩, by omega⟩
    · have q1 : decide (z < 0) = false := by simpa using hz
      go_wp2_with fail
      refine HCM.out.mono ?_
      rintro e w' ⟨rfl, rfl⟩
      go_wp2_with fail
      go_roundg l.size
      case measure => have := HSZ.out; simp only [Tree.size] at this; omega
      case rel => exact ⟨rfl, la, l, y, rfl, rfl, Lib.hid ⟨HNV.out.left, HSS.out.1, Nat.le_refl _, by have h := HX.out.2.2.2; rw [HRN.out, if_neg (by rw [HKZ.out, q1]; simp)] at h; exact h⟩, by have := HLS.out; omega⟩
theorem rank_map {seed : Int} {R : Nat → Prop} {w : World} {mb bb : Nat} {ra : Option Addr} {t : Tree} (h : MapAt seed R w mb bb ra t) {kx : Value} {key : Key} (hk : BV w kx key) :
    Calls Try.prog 54 #[.pointer (some ⟨mb, 0, none⟩), kx] w (fun e w' => e = .returned (.int .i64 ((rankF key t.toL : Nat) : Int)) ∧ w = w') := by
  have HM := Lib.hid (root_map h)
  have HR := Lib.hid (rank_any h.tree h.srt h.size hk)
  obtain ⟨qa, qc, rfl, _, _⟩ := hk
  have HE : ∃ ql, key.length = ql := ⟨_, rfl⟩
  obtain ⟨ql, eql⟩ := HE
  rw [eql] at HR ⊢
  clear h eql
  go_enter Try.func54, Try.ntmps54
  go_wp2_with fail
  refine HM.out.mono ?_
  rintro e w' ⟨rfl, rfl⟩
  go_wp2_with fail
  refine HR.out.mono ?_
  rintro e w' ⟨rfl, rfl⟩
  go_wp2_with fail
  go_ret
  exact ⟨rfl, rfl⟩

/-! ### A span -/
/-- The definition's span. -/
def spanF (bo : Bool) (low high : Key) (L : Pairs) : Pairs := if bo = true then (L.take (rankF high L)).drop (rankF low L) else L.drop (rankF low L)
theorem part_spanF (bo : Bool) (low high : Key) {t : Tree} (hs : Srt t.toL) : (partT bo low high t).toL = spanF bo low high t.toL := by
  have e1 := (split_toL low hs).2
  rw [← (rank_parts low hs).2] at e1
  cases bo with
  | false => simpa [partT, spanF] using e1
  | true =>
    have hs2 : Srt (splitT low t).2.toL := by rw [e1]; exact List.Pairwise.sublist (List.drop_sublist _ _) hs
    have e2 := (split_toL high hs2).1
    rw [e1] at e2
    simp only [partT, spanF, if_true]
    rw [e2]
    obtain ⟨t1, t2⟩ := rank_parts high hs
    generalize t.toL = L at *
    generalize rankF low L = r1 at *
    have hall : ∀ i p, L[i]? = some p → (klt p.1 high = true ↔ i < rankF high L) := by
      intro i p hp
      constructor
      · intro h
        rcases Nat.lt_or_ge i (rankF high L) with c | c
        · exact c
        · exfalso
          have hm : p ∈ L.drop (rankF high L) := List.mem_of_getElem? (i := i - rankF high L) (by rw [List.getElem?_drop, show rankF high L + (i - rankF high L) = i by omega]; exact hp)
          rw [t2, List.mem_filter] at hm
          simp [h] at hm
      · intro h
        have hm : p ∈ L.take (rankF high L) := List.mem_of_getElem? (i := i) (by rw [List.getElem?_take, if_pos h]; exact hp)
        rw [t1, List.mem_filter] at hm
        simpa using hm.2
    have key : ∀ (M : Pairs) (o r : Nat), (∀ i p, M[i]? = some p → (klt p.1 high = true ↔ i + o < r)) → M.filter (fun x => klt x.1 high) = M.take (r - o) := by
      intro M
      induction M with
      | nil => intro o r _; simp
      | cons q M ih =>
        intro o r h
        have h0 := h 0 q rfl
        have hrest := ih (o + 1) r (fun i p hp => by have := h (i + 1) p (by simpa using hp); rw [this]; omega)
        by_cases c : 0 + o < r
        · rw [List.filter_cons, if_pos (h0.2 c), hrest, show r - o = (r - (o + 1)) + 1 by omega, List.take_succ_cons]
        · have c' : klt q.1 high = false := by
            cases hq : klt q.1 high with
            | false => rfl
            | true => exact absurd (h0.1 hq) c
          rw [List.filter_cons, if_neg (by rw [c']; decide), hrest, show r - (o + 1) = 0 by omega, show r - o = 0 by omega, List.take_zero, List.take_zero]
    rw [key (L.drop r1) r1 (rankF high L) (fun i p hp => by rw [List.getElem?_drop] at hp; rw [hall _ p hp]; omega), List.drop_take]
set_option maxRecDepth 100000 in
set_option maxHeartbeats 4000000 in
theorem spanRP_any {w : World} {x : Value} {L : Pairs} {la ha : Option Addr} {ll lc hl hc : Nat} {low high : Key} (h : PL w x L) (hs : Short L) (hn : L.length ≤ 1000000) (hlo : BV w (.slice la ll lc) low) (hlol : low.length ≤ 1000000) (hhi : BV w (.slice ha hl hc) high) (hhil : high.length ≤ 1000000) (bo : Bool) :
    Calls Try.prog 34 #[x, .slice la ll lc, .slice ha hl hc, .bool bo] w (ListP (spanF bo low high L) w) := by
  obtain ⟨ao, cap, rfl⟩ := h.form
  have HP := Lib.hid h
  have HR1 := Lib.hid (rankR_any h hs hn hlo hlol)
  have HR2 := Lib.hid (fun w' (ht : Touch Nil w w') => rankR_any (h.keepN ht) hs hn (hhi.keepN ht) hhil)
  have hr1 := rankF_le low L
  have hr2 := rankF_le high L
  have HE : ∃ n, L.length = n := ⟨_, rfl⟩
  obtain ⟨n, en⟩ := HE
  unfold spanF
  rw [en] at HP HR1 hr1 hr2 hn ⊢
  simp only [en] at HR2
  have HN := Lib.hid en
  generalize rankF low L = r1 at *
  generalize rankF high L = r2 at *
  clear h hs hlo hhi hlol hhil en
  cases bo with
  | false =>
    obtain ⟨ca, cc, hcut, hcl⟩ := HP.out.cut_lh slPair szPair (i := r1) (j := n) hr1 (Nat.le_refl _)
    rw [List.take_of_length_le (by have := HN.out; omega)] at hcl
    have HCL := Lib.hid hcl
    have q1 : decide ((n : Int) < (r1 : Int)) = false := by simp; omega
    have q2 : decide (n < r1) = false := by simp; omega
    clear hcl
    go_enter Try.func34, Try.ntmps34
    go_wp2_with fail
    refine HR1.out.mono ?_
    rintro e w1 ⟨rfl, ht1⟩
    have HT1 := Lib.hid ht1
    clear ht1
    go_wp2_with fail
    go_ret
    exact ⟨_, rfl, HCL.out.keepN HT1.out, HT1.out⟩
  | true =>
    by_cases hlt : r2 < r1
    · have q1 : decide ((r2 : Int) < (r1 : Int)) = true := by simp; omega
      have q2 : decide (r2 < r1) = true := by simpa using hlt
      have HNI := Lib.hid (show (L.take r2).drop r1 = [] from List.drop_eq_nil_of_le (by rw [List.length_take]; omega))
      go_enter Try.func34, Try.ntmps34
      go_wp2_with fail
      refine HR1.out.mono ?_
      rintro e w1 ⟨rfl, ht1⟩
      have HT1 := Lib.hid ht1
      clear ht1
      go_wp2_with fail
      refine (HR2.out _ HT1.out).mono ?_
      rintro e w2 ⟨rfl, ht2⟩
      have HT2 := Lib.hid (HT1.out.trans ht2)
      clear ht2
      go_wp2_with fail
      go_ret
      exact ⟨_, rfl, by rw [HNI.out]; exact RL.nil, HT2.out⟩
    · have q1 : decide ((r2 : Int) < (r1 : Int)) = false := by simp; omega
      have q2 : decide (r2 < r1) = false := by simpa using hlt
      obtain ⟨ca, cc, hcut, hcl⟩ := HP.out.cut_lh slPair szPair (i := r1) (j := r2) (by omega) hr2
      have HCL := Lib.hid hcl
      clear hcl
      go_enter Try.func34, Try.ntmps34
      go_wp2_with fail
      refine HR1.out.mono ?_
      rintro e w1 ⟨rfl, ht1⟩
      have HT1 := Lib.hid ht1
      clear ht1
      go_wp2_with fail
      refine (HR2.out _ HT1.out).mono ?_
      rintro e w2 ⟨rfl, ht2⟩
      have HT2 := Lib.hid (HT1.out.trans ht2)
      clear ht2
      go_wp2_with fail
      go_ret
      exact ⟨_, rfl, HCL.out.keepN HT2.out, HT2.out⟩
end Go.Proofs.Ytkkpcndpjkebkaa

/- Lists that are made anew, with where they lie. -/
namespace Go.Proofs.Ytkkpcndpjkebkaa
open Go.ChangeShapes Go.WideShapes Go.ChangeAt Go.RowKit Go.Deep

/-- A new list. -/
def ListO (L : Pairs) (w : World) (e : Ending) (w' : World) : Prop := ∃ x, e = .returned x ∧ PO w.heap.size w' x L ∧ Touch Nil w w'
/-- A new list, or the elder one. -/
def ListX (x : Value) (L : Pairs) (w : World) (e : Ending) (w' : World) : Prop := ∃ x', e = .returned x' ∧ ((x' = x ∧ PL w x L) ∨ PO w.heap.size w' x' L) ∧ Touch Nil w w'
/-- A block that holds a struct of two maps and two lists. -/
def Pod (w : World) (b : Nat) : Prop := ∃ p q x y c T, w.heap[b]? = some (.cells #[.pointer p, .pointer q, x, y, .bool c] T (0, 0)) ∧ (∃ a n m, x = .slice a n m) ∧ (∃ a n m, y = .slice a n m)
theorem Pod.cell {w : World} {b o : Nat} {k : IntKind} {z : Int} (h : Pod w b) (hc : w.cell? ⟨b, o, none⟩ = some (.int k z)) : False := by
  obtain ⟨p, q, x, y, c, T, hb, ⟨_, _, _, rfl⟩, ⟨_, _, _, rfl⟩⟩ := h
  simp only [World.cell?, hb] at hc
  match o, hc with
  | 0, hc => simp at hc
  | 1, hc => simp at hc
  | 2, hc => simp at hc
  | 3, hc => simp at hc
  | 4, hc => simp at hc
  | o + 5, hc => simp at hc
theorem BV.keepPod {S : Nat → Prop} {w w' : World} {x : Value} {l : Key} (h : BV w x l) (ht : Touch S w w') (hS : ∀ b, S b → Pod w b) : BV w' x l := by
  obtain ⟨ao, cap, rfl, h1, h2⟩ := h
  refine ⟨ao, cap, rfl, h1, h2.keep ht fun a e hp hs => ?_⟩
  obtain ⟨b, off, e', hc⟩ := h2 0 hp
  rw [e] at e'
  cases e'
  exact (hS b hs).cell hc
/-- A new list stays while structs below it are written. -/
theorem PO.keepPod {S : Nat → Prop} {base : Nat} {w w' : World} {x : Value} {L : Pairs} (h : PO base w x L) (ht : Touch S w w') (hS : ∀ b, S b → b < base ∧ Pod w b) : PL w' x L := by
  have hb := h.base'
  obtain ⟨ao, cap, v, rfl, h1, h2, h3, h4⟩ := h.rl
  refine ⟨ao, cap, v, rfl, h1, h2, fun h0 => ?_, fun i a ha c hc => ?_⟩
  · obtain ⟨b, off, e, hlt, hcl⟩ := h3 h0
    subst e
    have hbb := hb b rfl
    exact ⟨b, off, rfl, Nat.lt_of_lt_of_le hlt ht.size, fun i hi c hcc => (ht.cell hlt (fun hs => by have := (hS b hs).1; omega) _).trans (hcl i hi c hcc)⟩
  · have hf := h4 i a ha c hc
    match c, hf with
    | 0, hf => exact BV.keepPod hf ht fun b hs => (hS b hs).2
    | _ + 1, hf => exact BV.keepPod hf ht fun b hs => (hS b hs).2
set_option maxRecDepth 100000 in
set_option maxHeartbeats 4000000 in
theorem putRO_any {w : World} {x kx ux : Value} {L : Pairs} {key u : Key} (h : PL w x L) (hs : Short L) (hn : L.length ≤ 1000000) (hk : BV w kx key) (hkl : key.length ≤ 1000000) (hu : BV w ux u) (hul : u.length ≤ 1000000) :
    Calls Try.prog 50 #[x, kx, ux] w (ListO (putF key u L) w) := by
  have HRK := Lib.hid (rankR_any h hs hn hk hkl)
  have HHAS := Lib.hid (fun w' (ht : Touch Nil w w') => hasR_any (h.keepN ht) hs hn (hk.keepN ht) hkl)
  have HCK := Lib.hid (fun w' (ht : Touch Nil w w') => copyR_any (hk.keepN ht) (by omega))
  have HCU := Lib.hid (fun w' (ht : Touch Nil w w') => copyR_any (hu.keepN ht) (by omega))
  obtain ⟨ao, cap, rfl⟩ := h.form
  have HP := Lib.hid h
  obtain ⟨qa, qc, rfl⟩ := hk.len'
  obtain ⟨va, vc, rfl⟩ := hu.len'
  have HLE := Lib.hid (rankF_le key L)
  have HHL := Lib.hid (show hasF key L = true → rankF key L + 1 ≤ L.length from fun hh => by
    unfold hasF at hh
    cases c : L[rankF key L]? with
    | none => rw [c] at hh; cases hh
    | some p => exact (List.getElem?_eq_some_iff.1 c).1)
  have HPF := Lib.hid (show putF key u L = L.take (rankF key L) ++ [(key, u)] ++ L.drop (if hasF key L = true then rankF key L + 1 else rankF key L) from rfl)
  obtain ⟨ch, cc, hcut, hrt⟩ := h.cut_h slPair szPair (m := rankF key L) HLE.out
  have HRT := Lib.hid hrt
  have HLT := Lib.hid (show (L.take (rankF key L)).length = rankF key L by rw [List.length_take]; have := HLE.out; omega)
  have HCL := Lib.hid (fun m (hm : m ≤ L.length) => h.cut_l slPair szPair (m := m) hm)
  have HE : ∃ n, L.length = n := ⟨_, rfl⟩
  obtain ⟨n, en⟩ := HE
  rw [en] at HP hn HRK HLE HHL hcut ⊢
  simp only [en] at HHAS HCL
  have HN := Lib.hid en
  generalize hasF key L = q at *
  generalize rankF key L = r at *
  generalize hTK : L.take r = TK at *
  have HTK := Lib.hid hTK
  have hr := HLE.out
  have HNN := Lib.hid hn
  generalize key.length = kl at *
  generalize u.length = ul at *
  clear h hs hk hu en hrt hTK hkl hul
  go_enter Try.func50, Try.ntmps50
  go_wp2_with fail
  refine HRK.out.mono ?_
  rintro e w1 ⟨rfl, ht1⟩
  have HT1 := Lib.hid ht1
  clear ht1 HRK
  go_wp2_with (refine wpList_append_rl rfl (.tmp 12) (.tmp 15) rfl (.agg #[.slice none 0 0, .slice none 0 0]) Try.underlying26 infoPair rfl (by decide) (by decide) (by decide) (.slice none 0 0) (.slice ch r cc) rfl (OL.nil (base := w.heap.size)) rfl w HRT.out HT1.out (Nat.le_refl _) ?p1 HT1.out.size ?p2)
  case p1 => rw [HLT.out]; simp; have := HNN.out; omega
  intro v2 w2 ho2 ht2
  have HO2 := Lib.hid (show PO w.heap.size w2 v2 TK from by simpa using ho2.out)
  have HT2 := Lib.hid (show Touch Nil w w2 from HT1.out.trans' ht2.out fun b hb hs => by cases hs)
  obtain ⟨va2, vl2, vc2, rfl⟩ := HO2.out.form3
  clear ho2 ht2 hcut
  go_wp2_with fail
  refine (HCK.out _ HT2.out).mono ?_
  rintro e w3 ⟨k3, rfl, hk3, ht3⟩
  obtain ⟨ka3, kl3, kc3, rfl⟩ := hk3.form
  have HO3 := Lib.hid (HO2.out.keepN ht3)
  have HK3 := Lib.hid hk3
  have HT3 := Lib.hid (HT2.out.trans ht3)
  clear hk3 ht3 HO2
  go_wp2_with fail
  refine (HCU.out _ HT3.out).mono ?_
  rintro e w4 ⟨u4, rfl, hu4, ht4⟩
  obtain ⟨ua4, ul4, uc4, rfl⟩ := hu4.form
  have HK4 := Lib.hid (HK3.out.keep ht4 (fun _ _ c => c))
  have HU4 := Lib.hid hu4
  have HTA := Lib.hid ((Touch.refl Nil w4).alloc (.cells #[.slice ka3 kl3 kc3, .slice ua4 ul4 uc4] 45))
  have HO4 := Lib.hid ((HO3.out.keepN ht4).keepN HTA.out)
  have HT4 := Lib.hid ((HT3.out.trans ht4).trans HTA.out)
  have HUS := Lib.hid (show ∀ j v, ([.slice ka3 kl3 kc3, .slice ua4 ul4 uc4] : List Value)[j]? = some v → (w4.alloc (.cells #[.slice ka3 kl3 kc3, .slice ua4 ul4 uc4] 45)).cell? ⟨w4.heap.size, j, none⟩ = some v ∧ KF w.heap.size (w4.alloc (.cells #[.slice ka3 kl3 kc3, .slice ua4 ul4 uc4] 45)) v (pairF (key, u) j) from fun j v hj => by
    refine ⟨by rw [cell_new]; simpa using hj, ?_⟩
    match j, hj with
    | 0, hj => cases hj; exact (KF.ofOwn HK4.out).keepN HTA.out
    | 1, hj => cases hj; exact (KF.ofOwn HU4.out).keepN HTA.out)
  clear hu4 ht4 HO3 HK3
  go_wp2_with (refine wpList_append_el rfl (.tmp 17) (.tmp 23) rfl (.agg #[.slice none 0 0, .slice none 0 0]) Try.underlying26 infoPair rfl (by decide) (by decide) (by decide) (.slice va2 vl2 vc2) rfl HO4.out w4.heap.size 1 rfl [.slice ka3 kl3 kc3, .slice ua4 ul4 uc4] (key, u) rfl HUS.out ?q1 HT4.out.size ?q2)
  case q1 => rw [HLT.out]; have := HNN.out; omega
  intro v5 w5 ho5 ht5
  have HO5 := Lib.hid (show PO w.heap.size w5 v5 (TK ++ [(key, u)]) from ho5.out)
  have HT5 := Lib.hid (show Touch Nil w w5 from HT4.out.trans' ht5.out fun b hb hs => by have := HO4.out.base' b hs; omega)
  obtain ⟨va5, vl5, vc5, rfl⟩ := HO5.out.form3
  clear ho5 ht5 HUS HTA HK4 HU4
  go_wp2_with fail
  refine (HHAS.out _ HT5.out).mono ?_
  rintro e w6 ⟨rfl, ht6⟩
  have HO6 := Lib.hid (HO5.out.keepN ht6)
  have HT6 := Lib.hid (HT5.out.trans ht6)
  clear ht6 HHAS HO5
  cases q with
  | true =>
    have hr1 := HHL.out rfl
    have HPF := Lib.hid (show putF key u L = TK ++ [(key, u)] ++ L.drop (r + 1) from by rw [HPF.out, if_pos rfl])
    obtain ⟨dh, dc, hcut, hrd⟩ := HCL.out (r + 1) hr1
    have HRD := Lib.hid hrd
    have hca : ((r + 1 : Nat) : Int) = (r : Int) + 1 := by omega
    rw [hca] at hcut
    clear hrd hca
    go_wp2_with (refine wpList_append_rl rfl (.tmp 30) (.tmp 33) rfl (.agg #[.slice none 0 0, .slice none 0 0]) Try.underlying26 infoPair rfl (by decide) (by decide) (by decide) (.slice va5 vl5 vc5) (.slice dh (n - (r + 1)) dc) rfl HO6.out rfl w HRD.out HT6.out (Nat.le_refl _) ?r1 HT6.out.size ?r2)
    case r1 => simp; have := HLT.out; have := HNN.out; have := HN.out; omega
    intro v7 w7 ho7 ht7
    have HO7 := Lib.hid ho7.out
    have HT7 := Lib.hid (show Touch Nil w w7 from HT6.out.trans' ht7.out fun b hb hs => by have := HO6.out.base' b hs; omega)
    obtain ⟨va7, vl7, vc7, rfl⟩ := HO7.out.form3
    clear ho7 ht7 hcut
    go_wp2_with fail
    go_ret
    exact ⟨_, rfl, by rw [HPF.out]; first | exact HO7.out | simpa using HO7.out, HT7.out⟩
  | false =>
    have HPF := Lib.hid (show putF key u L = TK ++ [(key, u)] ++ L.drop r from by rw [HPF.out, if_neg (by decide)])
    obtain ⟨dh, dc, hcut, hrd⟩ := HCL.out r hr
    have HRD := Lib.hid hrd
    clear hrd
    go_wp2_with (refine wpList_append_rl rfl (.tmp 30) (.tmp 33) rfl (.agg #[.slice none 0 0, .slice none 0 0]) Try.underlying26 infoPair rfl (by decide) (by decide) (by decide) (.slice va5 vl5 vc5) (.slice dh (n - r) dc) rfl HO6.out rfl w HRD.out HT6.out (Nat.le_refl _) ?s1 HT6.out.size ?s2)
    case s1 => simp; have := HLT.out; have := HNN.out; have := HN.out; omega
    intro v7 w7 ho7 ht7
    have HO7 := Lib.hid ho7.out
    have HT7 := Lib.hid (show Touch Nil w w7 from HT6.out.trans' ht7.out fun b hb hs => by have := HO6.out.base' b hs; omega)
    obtain ⟨va7, vl7, vc7, rfl⟩ := HO7.out.form3
    clear ho7 ht7 hcut
    go_wp2_with fail
    go_ret
    exact ⟨_, rfl, by rw [HPF.out]; first | exact HO7.out | simpa using HO7.out, HT7.out⟩
set_option maxRecDepth 100000 in
set_option maxHeartbeats 4000000 in
theorem dropRO_any {w : World} {x kx : Value} {L : Pairs} {key : Key} (h : PL w x L) (hs : Short L) (hn : L.length ≤ 1000000) (hk : BV w kx key) (hkl : key.length ≤ 1000000) :
    Calls Try.prog 61 #[x, kx] w (ListX x (dropF key L) w) := by
  have HHAS := Lib.hid (hasR_any h hs hn hk hkl)
  have HRK := Lib.hid (fun w' (ht : Touch Nil w w') => rankR_any (h.keepN ht) hs hn (hk.keepN ht) hkl)
  obtain ⟨ao, cap, rfl⟩ := h.form
  have HP := Lib.hid h
  obtain ⟨qa, qc, rfl⟩ := hk.len'
  have HLE := Lib.hid (rankF_le key L)
  have HHL := Lib.hid (show hasF key L = true → rankF key L + 1 ≤ L.length from fun hh => by
    obtain ⟨p, hp, _⟩ := hasF_at hh
    exact (List.getElem?_eq_some_iff.1 hp).1)
  have HDF := Lib.hid (show dropF key L = if hasF key L = true then L.take (rankF key L) ++ L.drop (rankF key L + 1) else L from rfl)
  obtain ⟨ch, cc, hcut, hrt⟩ := h.cut_h slPair szPair (m := rankF key L) HLE.out
  have HRT := Lib.hid hrt
  have HLT := Lib.hid (show (L.take (rankF key L)).length = rankF key L by rw [List.length_take]; have := HLE.out; omega)
  have HCL := Lib.hid (fun m (hm : m ≤ L.length) => h.cut_l slPair szPair (m := m) hm)
  have HE : ∃ n, L.length = n := ⟨_, rfl⟩
  obtain ⟨n, en⟩ := HE
  rw [en] at HP hn HHAS HLE HHL hcut ⊢
  simp only [en] at HRK HCL
  have HN := Lib.hid en
  generalize hasF key L = q at *
  generalize rankF key L = r at *
  generalize hTK : L.take r = TK at *
  have hr := HLE.out
  have HNN := Lib.hid hn
  generalize key.length = kl at *
  clear h hs hk en hrt hTK hkl
  go_enter Try.func61, Try.ntmps61
  go_wp2_with fail
  refine HHAS.out.mono ?_
  rintro e w1 ⟨rfl, ht1⟩
  have HT1 := Lib.hid ht1
  clear ht1 HHAS
  cases q with
  | false =>
    go_wp2_with fail
    go_ret
    exact ⟨_, rfl, .inl ⟨rfl, by rw [HDF.out, if_neg (by decide)]; exact HP.out⟩, HT1.out⟩
  | true =>
    have hr1 := HHL.out rfl
    go_wp2_with fail
    refine (HRK.out _ HT1.out).mono ?_
    rintro e w2 ⟨rfl, ht2⟩
    have HT2 := Lib.hid (HT1.out.trans ht2)
    clear ht2 HRK HT1
    go_wp2_with (refine wpList_append_rl rfl (.tmp 15) (.tmp 18) rfl (.agg #[.slice none 0 0, .slice none 0 0]) Try.underlying26 infoPair rfl (by decide) (by decide) (by decide) (.slice none 0 0) (.slice ch r cc) rfl (OL.nil (base := w.heap.size)) rfl w HRT.out HT2.out (Nat.le_refl _) ?p1 HT2.out.size ?p2)
    case p1 => rw [HLT.out]; simp; have := HNN.out; omega
    intro v3 w3 ho3 ht3
    have HO3 := Lib.hid (show PO w.heap.size w3 v3 TK from by simpa using ho3.out)
    have HT3 := Lib.hid (show Touch Nil w w3 from HT2.out.trans' ht3.out fun b hb hs => by cases hs)
    obtain ⟨va3, vl3, vc3, rfl⟩ := HO3.out.form3
    clear ho3 ht3 hcut
    obtain ⟨dh, dc, hcut, hrd⟩ := HCL.out (r + 1) hr1
    have HRD := Lib.hid hrd
    have hca : ((r + 1 : Nat) : Int) = (r : Int) + 1 := by omega
    rw [hca] at hcut
    clear hrd hca
    go_wp2_with (refine wpList_append_rl rfl (.tmp 20) (.tmp 24) rfl (.agg #[.slice none 0 0, .slice none 0 0]) Try.underlying26 infoPair rfl (by decide) (by decide) (by decide) (.slice va3 vl3 vc3) (.slice dh (n - (r + 1)) dc) rfl HO3.out rfl w HRD.out HT3.out (Nat.le_refl _) ?r1 HT3.out.size ?r2)
    case r1 => rw [List.length_drop]; have := HLT.out; have := HNN.out; have := HN.out; omega
    intro v7 w7 ho7 ht7
    have HO7 := Lib.hid ho7.out
    have HT7 := Lib.hid (show Touch Nil w w7 from HT3.out.trans' ht7.out fun b hb hs => by have := HO3.out.base' b hs; omega)
    obtain ⟨va7, vl7, vc7, rfl⟩ := HO7.out.form3
    clear ho7 ht7 hcut
    go_wp2_with fail
    go_ret
    exact ⟨_, rfl, .inr (by rw [HDF.out]; exact HO7.out), HT7.out⟩
end Go.Proofs.Ytkkpcndpjkebkaa
