import Derived.Test.YtkkpcndpjkebkaaPlayC
import Derived.Test.YtkkpcndpjkebkaaWhole
import Derived.Test.YtkkpcndpjkebkaaSameS
/- What OrderPlays asks of a map, kind by kind. -/
namespace Go.Proofs.Ytkkpcndpjkebkaa
open Go.ChangeShapes Go.WideShapes Go.ChangeAt Go.RowKit Go.Deep

theorem cells6 {w : World} {b t : Nat} {x0 x1 x2 x3 x4 x5 : Value} (h : w.heap[b]? = some (.cells #[x0, x1, x2, x3, x4, x5] t (0, 0))) : w.cell? ⟨b, 0, none⟩ = some x0 ∧ w.cell? ⟨b, 1, none⟩ = some x1 ∧ w.cell? ⟨b, 2, none⟩ = some x2 ∧ w.cell? ⟨b, 3, none⟩ = some x3 ∧ w.cell? ⟨b, 4, none⟩ = some x4 ∧ w.cell? ⟨b, 5, none⟩ = some x5 := by
  refine ⟨?_, ?_, ?_, ?_, ?_, ?_⟩ <;> simp [World.cell?, h]
set_option maxRecDepth 100000 in
set_option maxHeartbeats 2000000 in
/-- A value is asked for. -/
theorem asked2_any {seed : Int} {R : Nat → Prop} {w : World} {mb bb : Nat} {ra : Option Addr} {t : Tree} {la : Option Addr} {ln lc : Nat} (h : MapAt seed R w mb bb ra t) (hp : PL w (.slice la ln lc) t.toL) {ka va ha : Option Addr} {kl kc vl vc hl hc : Nat} {key : Key} (hk : BV w (.slice ka kl kc) key) (hkl : key.length ≤ 2000) (bo : Bool) (n : Int) :
    Calls Try.prog 63 #[.pointer (some ⟨mb, 0, none⟩), .int .u64 seed, .slice la ln lc, .agg #[.int .i64 2, .slice ka kl kc, .slice va vl vc, .slice ha hl hc, .bool bo, .int .i64 n]] w (TrueP w) := by
  obtain ⟨W, eW⟩ : ∃ W, w.alloc (.cells #[.int .i64 2, .slice ka kl kc, .slice va vl vc, .slice ha hl hc, .bool bo, .int .i64 n] 31) = W := ⟨_, rfl⟩
  have HTB := Lib.hid (show Touch Nil w W from by rw [← eW]; exact (Touch.refl Nil w).alloc _)
  obtain ⟨B, eB⟩ : ∃ B, w.heap.size = B := ⟨_, rfl⟩
  have HBX := Lib.hid (show ∀ w', Touch Nil W w' → w'.heap[B]? = some (.cells #[.int .i64 2, .slice ka kl kc, .slice va vl vc, .slice ha hl hc, .bool bo, .int .i64 n] 31 (0, 0)) from fun w' ht => by
    have h0 : W.heap[B]? = some (.cells #[.int .i64 2, .slice ka kl kc, .slice va vl vc, .slice ha hl hc, .bool bo, .int .i64 n] 31 (0, 0)) := by rw [← eW, ← eB]; exact heap_alloc_new _ _
    exact (ht.same B (lt_of_heap h0) fun c => c).trans h0)
  have hok := treeAt_ok h.tree
  have HOK := Lib.hid hok
  have hz := h.size
  have HGE := Lib.hid (fun w' (ht : Touch Nil w w') => get_map (h.keepN ht) (hk.keepN ht))
  have HGR := Lib.hid (fun w' (ht : Touch Nil w w') => getR_any (hp.keepN ht) (OkL.short hok) (by rw [← size_toL]; omega) (hk.keepN ht) (by omega))
  have HSRT := Lib.hid h.srt
  clear h hp hk hok
  obtain ⟨x0, x1, _, _, _, _⟩ := cells6 (HBX.out W (Touch.refl Nil W))
  go_enter Try.func63, Try.ntmps63
  go_wp2_with fail
  clear eW eB x0 x1
  refine (HGE.out _ HTB.out).mono ?_
  rintro e w2 ⟨gx, gc, rfl, hg, ht2⟩
  have HT2 := Lib.hid (HTB.out.trans ht2)
  have hgv : ∃ l, BV w2 gx l ∧ l.length ≤ 1000 ∧ (∀ u, (key, u) ∈ t.toL → u = l) ∧ ((∀ p ∈ t.toL, p.1 ≠ key) → l = []) ∧ ((gc = 3 ∧ hasF key t.toL = false) ∨ (gc = 0 ∧ hasF key t.toL = true)) := by
    rcases hg with ⟨rfl, rfl, hno⟩ | ⟨rfl, u, hu, ho⟩
    · refine ⟨[], BV.nil _, by simp, fun u hu => absurd rfl (hno (key, u) hu), fun _ => rfl, .inl ⟨rfl, ?_⟩⟩
      cases hh : hasF key t.toL with
      | false => rfl
      | true => obtain ⟨u, hu⟩ := (hasF_iff HSRT.out).1 hh; exact absurd rfl (hno (key, u) hu)
    · exact ⟨u, ho.bv, (HOK.out (key, u) hu).2.2, fun v hv => HSRT.out.once hv hu, fun hno => absurd rfl (hno (key, u) hu), .inr ⟨rfl, (hasF_iff HSRT.out).2 ⟨u, hu⟩⟩⟩
  obtain ⟨l, hgb, hll, hu1, hu2, hgc⟩ := hgv
  have HG := Lib.hid (And.intro hgb (And.intro hll (And.intro hu1 hu2)))
  obtain ⟨ga, gn, gcap, rfl⟩ : ∃ a n c, gx = .slice a n c := by obtain ⟨a, c, e, _⟩ := hgb; exact ⟨_, _, _, e⟩
  obtain ⟨_, x1, _, _, _, _⟩ := cells6 (HBX.out w2 ht2)
  have HGC := Lib.hid hgc
  clear hg ht2 hgb hll hu1 hu2 hgc HGE
  go_wp2_with fail
  refine (HGR.out _ HT2.out).mono ?_
  rintro e w3 ⟨rx, rc, rfl, hr, ht3⟩
  have HT3 := Lib.hid (HT2.out.trans ht3)
  have hrv : BV w3 rx l ∧ rc = gc := by
    rcases hr with ⟨rfl, rfl, hno⟩ | ⟨rfl, hh, p, hp, hpk, hb⟩
    · refine ⟨?_, ?_⟩
      · have : l = [] := HG.out.2.2.2 fun p hp e => by
          have := (hasF_iff (key := key) HSRT.out).2 ⟨p.2, by rw [← e]; exact hp⟩
          rw [hno] at this; cases this
        rw [this]; exact BV.nil _
      · rcases HGC.out with ⟨h, _⟩ | ⟨_, h⟩
        · exact h.symm
        · rw [hno] at h; cases h
    · refine ⟨?_, ?_⟩
      · have : p.2 = l := HG.out.2.2.1 p.2 (by rw [← hpk]; exact List.mem_of_getElem? hp)
        rw [← this]; exact hb
      · rcases HGC.out with ⟨_, h⟩ | ⟨h, _⟩
        · rw [hh] at h; cases h
        · exact h.symm
  obtain ⟨hrb, rfl⟩ := hrv
  obtain ⟨ra3, rn3, rcap, rfl⟩ : ∃ a n c, rx = .slice a n c := by obtain ⟨a, c, e, _⟩ := hrb; exact ⟨_, _, _, e⟩
  have HSA := Lib.hid (same_any (HG.out.1.keepN ht3) hrb (by have := HG.out.2.1; omega) (by have := HG.out.2.1; omega))
  rw [decide_eq_true rfl] at HSA
  have q1 : ((rc : Int) == rc) = true := by simp
  clear hr ht3 hrb x1 HGR
  go_wp2_with fail
  refine HSA.out.mono ?_
  rintro e w4 ⟨rfl, ht4⟩
  have HT4 := Lib.hid (HT3.out.trans ht4)
  clear ht4
  go_wp2_with fail
  go_ret
  exact ⟨rfl, HT4.out⟩
set_option maxRecDepth 100000 in
set_option maxHeartbeats 2000000 in
/-- Whether it is whole is asked. -/
theorem asked3_any {seed : Int} {R : Nat → Prop} {w : World} {mb bb : Nat} {ra : Option Addr} {t : Tree} {la : Option Addr} {ln lc : Nat} (h : MapAt seed R w mb bb ra t) (hp : PL w (.slice la ln lc) t.toL) {ka va ha : Option Addr} {kl kc vl vc hl hc : Nat} {key high : Key} (hk : BV w (.slice ka kl kc) key) (hh : BV w (.slice ha hl hc) high) (hkl : key.length ≤ 2000) (hhl : high.length ≤ 2000) (bo : Bool) (n : Int) :
    Calls Try.prog 63 #[.pointer (some ⟨mb, 0, none⟩), .int .u64 seed, .slice la ln lc, .agg #[.int .i64 3, .slice ka kl kc, .slice va vl vc, .slice ha hl hc, .bool bo, .int .i64 n]] w (TrueP w) := by
  obtain ⟨W, eW⟩ : ∃ W, w.alloc (.cells #[.int .i64 3, .slice ka kl kc, .slice va vl vc, .slice ha hl hc, .bool bo, .int .i64 n] 31) = W := ⟨_, rfl⟩
  have HTB := Lib.hid (show Touch Nil w W from by rw [← eW]; exact (Touch.refl Nil w).alloc _)
  obtain ⟨B, eB⟩ : ∃ B, w.heap.size = B := ⟨_, rfl⟩
  have HBX := Lib.hid (show ∀ w', Touch Nil W w' → w'.heap[B]? = some (.cells #[.int .i64 3, .slice ka kl kc, .slice va vl vc, .slice ha hl hc, .bool bo, .int .i64 n] 31 (0, 0)) from fun w' ht => by
    have h0 : W.heap[B]? = some (.cells #[.int .i64 3, .slice ka kl kc, .slice va vl vc, .slice ha hl hc, .bool bo, .int .i64 n] 31 (0, 0)) := by rw [← eW, ← eB]; exact heap_alloc_new _ _
    exact (ht.same B (lt_of_heap h0) fun c => c).trans h0)
  have hok := treeAt_ok h.tree
  have HOK := Lib.hid hok
  have HG := Lib.hid (h.good hok)
  have HZ := Lib.hid h.size
  have HMAP := Lib.hid (fun w' (ht : Touch Nil w w') => h.keepN ht)
  have HPL := Lib.hid (fun w' (ht : Touch Nil w w') => hp.keepN ht)
  have HKEY := Lib.hid (fun w' (ht : Touch Nil w w') => hk.keepN ht)
  have HHIGH := Lib.hid (fun w' (ht : Touch Nil w w') => hh.keepN ht)
  have HLL := Lib.hid (And.intro hkl hhl)
  have hlen := hp.len
  have HLEN := Lib.hid hlen
  clear h hp hk hh hok hlen
  obtain ⟨x0, _, _, _, _, _⟩ := cells6 (HBX.out W (Touch.refl Nil W))
  go_enter Try.func63, Try.ntmps63
  go_wp2_with fail
  try clear eW eB
  refine (whole_map (HMAP.out _ HTB.out) (HPL.out _ HTB.out)).mono ?_
  rintro e w2 ⟨rfl, ht2⟩
  have HT2 := Lib.hid (HTB.out.trans ht2)
  clear ht2
  go_wp2_with fail
  go_ret
  exact ⟨rfl, HT2.out⟩
set_option maxRecDepth 100000 in
set_option maxHeartbeats 2000000 in
/-- Its nodes are asked for. -/
theorem asked6_any {seed : Int} {R : Nat → Prop} {w : World} {mb bb : Nat} {ra : Option Addr} {t : Tree} {la : Option Addr} {ln lc : Nat} (h : MapAt seed R w mb bb ra t) (hp : PL w (.slice la ln lc) t.toL) {ka va ha : Option Addr} {kl kc vl vc hl hc : Nat} {key high : Key} (hk : BV w (.slice ka kl kc) key) (hh : BV w (.slice ha hl hc) high) (hkl : key.length ≤ 2000) (hhl : high.length ≤ 2000) (bo : Bool) (n : Int) :
    Calls Try.prog 63 #[.pointer (some ⟨mb, 0, none⟩), .int .u64 seed, .slice la ln lc, .agg #[.int .i64 6, .slice ka kl kc, .slice va vl vc, .slice ha hl hc, .bool bo, .int .i64 n]] w (TrueP w) := by
  obtain ⟨W, eW⟩ : ∃ W, w.alloc (.cells #[.int .i64 6, .slice ka kl kc, .slice va vl vc, .slice ha hl hc, .bool bo, .int .i64 n] 31) = W := ⟨_, rfl⟩
  have HTB := Lib.hid (show Touch Nil w W from by rw [← eW]; exact (Touch.refl Nil w).alloc _)
  obtain ⟨B, eB⟩ : ∃ B, w.heap.size = B := ⟨_, rfl⟩
  have HBX := Lib.hid (show ∀ w', Touch Nil W w' → w'.heap[B]? = some (.cells #[.int .i64 6, .slice ka kl kc, .slice va vl vc, .slice ha hl hc, .bool bo, .int .i64 n] 31 (0, 0)) from fun w' ht => by
    have h0 : W.heap[B]? = some (.cells #[.int .i64 6, .slice ka kl kc, .slice va vl vc, .slice ha hl hc, .bool bo, .int .i64 n] 31 (0, 0)) := by rw [← eW, ← eB]; exact heap_alloc_new _ _
    exact (ht.same B (lt_of_heap h0) fun c => c).trans h0)
  have hok := treeAt_ok h.tree
  have HOK := Lib.hid hok
  have HG := Lib.hid (h.good hok)
  have HZ := Lib.hid h.size
  have HMAP := Lib.hid (fun w' (ht : Touch Nil w w') => h.keepN ht)
  have HPL := Lib.hid (fun w' (ht : Touch Nil w w') => hp.keepN ht)
  have HKEY := Lib.hid (fun w' (ht : Touch Nil w w') => hk.keepN ht)
  have HHIGH := Lib.hid (fun w' (ht : Touch Nil w w') => hh.keepN ht)
  have HLL := Lib.hid (And.intro hkl hhl)
  have hlen := hp.len
  have HLEN := Lib.hid hlen
  clear h hp hk hh hok hlen
  obtain ⟨x0, _, _, _, _, _⟩ := cells6 (HBX.out W (Touch.refl Nil W))
  go_enter Try.func63, Try.ntmps63
  go_wp2_with fail
  try clear eW eB
  refine (nodes_map (HMAP.out _ HTB.out)).mono ?_
  rintro e w2 ⟨nx, rfl, hn2, ht2⟩
  have hr2 := hn2.rl
  obtain ⟨na, nn, nc, rfl⟩ := hr2.form3
  have HN2 := Lib.hid hr2
  have HT2 := Lib.hid (HTB.out.trans ht2)
  clear hn2 hr2 ht2
  go_wp2_with fail
  refine (nodesR_any HG.out.srt HG.out.heap HG.out.ok (HPL.out _ HT2.out) (by have := HZ.out; omega)).mono ?_
  rintro e w3 ⟨nx, rfl, hn3, ht3⟩
  have hr3 := hn3.rl
  obtain ⟨na3, nn3, nc3, rfl⟩ := hr3.form3
  have HT3 := Lib.hid (HT2.out.trans ht3)
  have HSN := Lib.hid (sameNodes_any (HN2.out.keepN ht3) hr3 (fun q hq => by have := nodesT_okK seed t 0 HG.out.ok q hq; unfold okK at this; omega) (by rw [nodesT_len]; have := HZ.out; omega))
  clear hn3 hr3 ht3
  go_wp2_with fail
  refine HSN.out.mono ?_
  rintro e w4 ⟨rfl, ht4⟩
  have HT4 := Lib.hid (HT3.out.trans ht4)
  clear ht4
  go_wp2_with fail
  go_ret
  exact ⟨rfl, HT4.out⟩
set_option maxRecDepth 100000 in
set_option maxHeartbeats 2000000 in
/-- Nothing is asked. -/
theorem askedX_any {seed : Int} {R : Nat → Prop} {w : World} {mb bb : Nat} {ra : Option Addr} {t : Tree} {la : Option Addr} {ln lc : Nat} (h : MapAt seed R w mb bb ra t) (hp : PL w (.slice la ln lc) t.toL) {ka va ha : Option Addr} {kl kc vl vc hl hc : Nat} {key high : Key} (hk : BV w (.slice ka kl kc) key) (hh : BV w (.slice ha hl hc) high) (hkl : key.length ≤ 2000) (hhl : high.length ≤ 2000) (bo : Bool) (n : Int) (k : Int) (hne : k < 2 ∨ 7 < k) :
    Calls Try.prog 63 #[.pointer (some ⟨mb, 0, none⟩), .int .u64 seed, .slice la ln lc, .agg #[.int .i64 k, .slice ka kl kc, .slice va vl vc, .slice ha hl hc, .bool bo, .int .i64 n]] w (TrueP w) := by
  obtain ⟨W, eW⟩ : ∃ W, w.alloc (.cells #[.int .i64 k, .slice ka kl kc, .slice va vl vc, .slice ha hl hc, .bool bo, .int .i64 n] 31) = W := ⟨_, rfl⟩
  have HTB := Lib.hid (show Touch Nil w W from by rw [← eW]; exact (Touch.refl Nil w).alloc _)
  obtain ⟨B, eB⟩ : ∃ B, w.heap.size = B := ⟨_, rfl⟩
  have HBX := Lib.hid (show ∀ w', Touch Nil W w' → w'.heap[B]? = some (.cells #[.int .i64 k, .slice ka kl kc, .slice va vl vc, .slice ha hl hc, .bool bo, .int .i64 n] 31 (0, 0)) from fun w' ht => by
    have h0 : W.heap[B]? = some (.cells #[.int .i64 k, .slice ka kl kc, .slice va vl vc, .slice ha hl hc, .bool bo, .int .i64 n] 31 (0, 0)) := by rw [← eW, ← eB]; exact heap_alloc_new _ _
    exact (ht.same B (lt_of_heap h0) fun c => c).trans h0)
  have hok := treeAt_ok h.tree
  have HOK := Lib.hid hok
  have HG := Lib.hid (h.good hok)
  have HZ := Lib.hid h.size
  have HMAP := Lib.hid (fun w' (ht : Touch Nil w w') => h.keepN ht)
  have HPL := Lib.hid (fun w' (ht : Touch Nil w w') => hp.keepN ht)
  have HKEY := Lib.hid (fun w' (ht : Touch Nil w w') => hk.keepN ht)
  have HHIGH := Lib.hid (fun w' (ht : Touch Nil w w') => hh.keepN ht)
  have HLL := Lib.hid (And.intro hkl hhl)
  have hlen := hp.len
  have HLEN := Lib.hid hlen
  have q2 : (k == 2) = false := by simp; omega
  have q3 : (k == 3) = false := by simp; omega
  have q4 : (k == 4) = false := by simp; omega
  have q5 : (k == 5) = false := by simp; omega
  have q6 : (k == 6) = false := by simp; omega
  have q7 : (k == 7) = false := by simp; omega
  clear h hp hk hh hok hlen
  obtain ⟨x0, _, _, _, _, _⟩ := cells6 (HBX.out W (Touch.refl Nil W))
  go_enter Try.func63, Try.ntmps63
  go_wp2_with fail
  try clear eW eB
  go_ret
  exact ⟨rfl, HTB.out⟩
set_option maxRecDepth 100000 in
set_option maxHeartbeats 2000000 in
/-- A span is asked for. -/
theorem asked5_any {seed : Int} {R : Nat → Prop} {w : World} {mb bb : Nat} {ra : Option Addr} {t : Tree} {la : Option Addr} {ln lc : Nat} (h : MapAt seed R w mb bb ra t) (hp : PL w (.slice la ln lc) t.toL) {ka va ha : Option Addr} {kl kc vl vc hl hc : Nat} {key high : Key} (hk : BV w (.slice ka kl kc) key) (hh : BV w (.slice ha hl hc) high) (hkl : key.length ≤ 2000) (hhl : high.length ≤ 2000) (bo : Bool) (n : Int) :
    Calls Try.prog 63 #[.pointer (some ⟨mb, 0, none⟩), .int .u64 seed, .slice la ln lc, .agg #[.int .i64 5, .slice ka kl kc, .slice va vl vc, .slice ha hl hc, .bool bo, .int .i64 n]] w (TrueP w) := by
  obtain ⟨W, eW⟩ : ∃ W, w.alloc (.cells #[.int .i64 5, .slice ka kl kc, .slice va vl vc, .slice ha hl hc, .bool bo, .int .i64 n] 31) = W := ⟨_, rfl⟩
  have HTB := Lib.hid (show Touch Nil w W from by rw [← eW]; exact (Touch.refl Nil w).alloc _)
  obtain ⟨B, eB⟩ : ∃ B, w.heap.size = B := ⟨_, rfl⟩
  have HBX := Lib.hid (show ∀ w', Touch Nil W w' → w'.heap[B]? = some (.cells #[.int .i64 5, .slice ka kl kc, .slice va vl vc, .slice ha hl hc, .bool bo, .int .i64 n] 31 (0, 0)) from fun w' ht => by
    have h0 : W.heap[B]? = some (.cells #[.int .i64 5, .slice ka kl kc, .slice va vl vc, .slice ha hl hc, .bool bo, .int .i64 n] 31 (0, 0)) := by rw [← eW, ← eB]; exact heap_alloc_new _ _
    exact (ht.same B (lt_of_heap h0) fun c => c).trans h0)
  have hok := treeAt_ok h.tree
  have HOK := Lib.hid hok
  have HG := Lib.hid (h.good hok)
  have HZ := Lib.hid h.size
  have HMAP := Lib.hid (fun w' (ht : Touch Nil w w') => h.keepN ht)
  have HPL := Lib.hid (fun w' (ht : Touch Nil w w') => hp.keepN ht)
  have HKEY := Lib.hid (fun w' (ht : Touch Nil w w') => hk.keepN ht)
  have HHIGH := Lib.hid (fun w' (ht : Touch Nil w w') => hh.keepN ht)
  have HLL := Lib.hid (And.intro hkl hhl)
  have hlen := hp.len
  have HLEN := Lib.hid hlen
  clear h hp hk hh hok hlen
  obtain ⟨x0, x1, _, x3, x4, _⟩ := cells6 (HBX.out W (Touch.refl Nil W))
  go_enter Try.func63, Try.ntmps63
  go_wp2_with fail
  try clear eW eB
  have HSL := Lib.hid (show (partT bo key high t).toL = spanF bo key high t.toL from part_spanF bo key high HG.out.srt)
  have HPO := Lib.hid (part_ok (seed := seed) bo key high HG.out.srt HG.out.heap)
  have HPB := Lib.hid (show OkL (partT bo key high t).toL from fun p hp => HG.out.ok p (part_mem bo key high t HG.out.srt p hp))
  refine (spanRP_any (HPL.out _ HTB.out) (OkL.short HG.out.ok) (by rw [← size_toL]; have := HZ.out; omega) (HKEY.out _ HTB.out) (by have := HLL.out.1; omega) (HHIGH.out _ HTB.out) (by have := HLL.out.2; omega) bo).mono ?_
  rintro e w2 ⟨sx, rfl, hs2, ht2⟩
  rw [← HSL.out] at hs2
  obtain ⟨sa, sn, sc, rfl⟩ := hs2.form3
  have HS2 := Lib.hid hs2
  have hsn : sn = (partT bo key high t).size := by rw [size_toL]; exact hs2.len
  have HT2 := Lib.hid (HTB.out.trans ht2)
  obtain ⟨_, x1, _, x3, x4, _⟩ := cells6 (HBX.out w2 ht2)
  have HT12 := Lib.hid ht2
  clear hs2 ht2 HSL
  go_wp2_with fail
  refine (spanDigest_map (HMAP.out _ HT2.out) (HKEY.out _ HT2.out) (HHIGH.out _ HT2.out) bo).mono ?_
  rintro e w3 ⟨rfl, ht3⟩
  have HT3 := Lib.hid (HT2.out.trans ht3)
  have HT13 := Lib.hid (HT12.out.trans ht3)
  have HDR := Lib.hid (digestR_any (seed := seed) HPO.out.1 HPO.out.2.1 HPB.out (HS2.out.keepN ht3) (by have := HPO.out.2.2; have := HZ.out; omega))
  obtain ⟨d, ed⟩ : ∃ d, digT seed (partT bo key high t) = d := ⟨_, rfl⟩
  rw [ed] at HDR ⊢
  rw [← hsn]
  have q1 : ((sn : Int) == (sn : Int)) = true := by simp
  have q2 : ((d : Int) == (d : Int)) = true := by simp
  have HS3 := Lib.hid (HS2.out.keepN ht3)
  have HSNN := Lib.hid hsn
  clear ht3 x1 x3 x4 ed hsn
  go_wp2_with fail
  refine HDR.out.mono ?_
  rintro e w4 ⟨rfl, ht4⟩
  have HT4 := Lib.hid (HT3.out.trans ht4)
  obtain ⟨_, x1, _, x3, x4, _⟩ := cells6 (HBX.out w4 (HT13.out.trans ht4))
  have HS4 := Lib.hid (HS3.out.keepN ht4)
  clear ht4 HDR
  go_wp2_with fail
  refine (span_map (HMAP.out _ HT4.out) (HKEY.out _ HT4.out) (HHIGH.out _ HT4.out) bo).mono ?_
  rintro e w5 ⟨px, rfl, hp5, ht5⟩
  have hr5 := hp5.rl
  obtain ⟨pa, pn, pc, rfl⟩ := hr5.form3
  have HT5 := Lib.hid (HT4.out.trans ht5)
  have HSP := Lib.hid (samePairs_any hr5 (HS4.out.keepN ht5) (fun p hp => by have := HPB.out p hp; unfold okK at this; omega) (by rw [← size_toL]; have := HPO.out.2.2; have := HZ.out; omega))
  clear hp5 hr5 ht5 x1 x3 x4
  go_wp2_with fail
  refine HSP.out.mono ?_
  rintro e w6 ⟨rfl, ht6⟩
  have HT6 := Lib.hid (HT5.out.trans ht6)
  clear ht6
  go_wp2_with fail
  go_ret
  exact ⟨rfl, HT6.out⟩
set_option maxRecDepth 100000 in
set_option maxHeartbeats 2000000 in
/-- A proof is asked for. -/
theorem asked7_any {seed : Int} {R : Nat → Prop} {w : World} {mb bb : Nat} {ra : Option Addr} {t : Tree} {la : Option Addr} {ln lc : Nat} (h : MapAt seed R w mb bb ra t) (hp : PL w (.slice la ln lc) t.toL) {ka va ha : Option Addr} {kl kc vl vc hl hc : Nat} {key high : Key} (hk : BV w (.slice ka kl kc) key) (hh : BV w (.slice ha hl hc) high) (hkl : key.length ≤ 2000) (hhl : high.length ≤ 2000) (bo : Bool) (n : Int) :
    Calls Try.prog 63 #[.pointer (some ⟨mb, 0, none⟩), .int .u64 seed, .slice la ln lc, .agg #[.int .i64 7, .slice ka kl kc, .slice va vl vc, .slice ha hl hc, .bool bo, .int .i64 n]] w (TrueP w) := by
  obtain ⟨W, eW⟩ : ∃ W, w.alloc (.cells #[.int .i64 7, .slice ka kl kc, .slice va vl vc, .slice ha hl hc, .bool bo, .int .i64 n] 31) = W := ⟨_, rfl⟩
  have HTB := Lib.hid (show Touch Nil w W from by rw [← eW]; exact (Touch.refl Nil w).alloc _)
  obtain ⟨B, eB⟩ : ∃ B, w.heap.size = B := ⟨_, rfl⟩
  have HBX := Lib.hid (show ∀ w', Touch Nil W w' → w'.heap[B]? = some (.cells #[.int .i64 7, .slice ka kl kc, .slice va vl vc, .slice ha hl hc, .bool bo, .int .i64 n] 31 (0, 0)) from fun w' ht => by
    have h0 : W.heap[B]? = some (.cells #[.int .i64 7, .slice ka kl kc, .slice va vl vc, .slice ha hl hc, .bool bo, .int .i64 n] 31 (0, 0)) := by rw [← eW, ← eB]; exact heap_alloc_new _ _
    exact (ht.same B (lt_of_heap h0) fun c => c).trans h0)
  have hok := treeAt_ok h.tree
  have HOK := Lib.hid hok
  have HG := Lib.hid (h.good hok)
  have HZ := Lib.hid h.size
  have HMAP := Lib.hid (fun w' (ht : Touch Nil w w') => h.keepN ht)
  have HPL := Lib.hid (fun w' (ht : Touch Nil w w') => hp.keepN ht)
  have HKEY := Lib.hid (fun w' (ht : Touch Nil w w') => hk.keepN ht)
  have HHIGH := Lib.hid (fun w' (ht : Touch Nil w w') => hh.keepN ht)
  have HLL := Lib.hid (And.intro hkl hhl)
  have hlen := hp.len
  have HLEN := Lib.hid hlen
  clear h hp hk hh hok hlen
  obtain ⟨x0, x1, _, _, _, _⟩ := cells6 (HBX.out W (Touch.refl Nil W))
  go_enter Try.func63, Try.ntmps63
  go_wp2_with fail
  try clear eW eB
  have HCF := Lib.hid (fun w' (ht : Touch Nil W w') => show w'.cell? ⟨B, 1, none⟩ = some (.slice ka kl kc) ∧ Hid (Touch Nil W w') from ⟨(cells6 (HBX.out w' ht)).2.1, Lib.hid ht⟩)
  have HPM := Lib.hid (fun w' (ht : Touch Nil W w') => prove_map (HMAP.out w' (HTB.out.trans ht)) (HKEY.out w' (HTB.out.trans ht)))
  have HPR := Lib.hid (fun w' (ht : Touch Nil W w') => proveR_any (seed := seed) HG.out (HPL.out w' (HTB.out.trans ht)) HZ.out (HKEY.out w' (HTB.out.trans ht)) (by have := HLL.out.1; omega))
  clear x0 x1
  go_region_held3 (fun w' => w'.cell? ⟨B, 1, none⟩ = some (.slice ka kl kc) ∧ Hid (Touch Nil W w'))
    (first | (with_reducible exact HCF.out _ (Touch.refl Nil W).drew) | (with_reducible exact HCF.out _ hT5) | (with_reducible exact HCF.out _ hT4) | (with_reducible exact HCF.out _ hT3))
    (first
      | (go_at_call 36; refine (HPM.out _ (Touch.refl Nil W).drew).mono ?_; rintro e w3 ⟨v3, rfl, h3, ht3⟩; have hr3 := h3.rl; obtain ⟨va3, vl3, vc3, rfl⟩ := hr3.form3; have hT3 : Touch Nil W w3 := (Touch.refl Nil W).drew.trans ht3; have H3 := Lib.hid hr3; clear h3 hr3 ht3)
      | (go_at_call 39; refine (HPR.out _ hT3).mono ?_; rintro e w4 ⟨v4, rfl, h4, ht4⟩; obtain ⟨va4, vl4, vc4, rfl⟩ := h4.form3; have hT4 : Touch Nil W w4 := hT3.trans ht4; have H4 := Lib.hid (And.intro (H3.out.keepN ht4) h4); clear h4 ht4)
      | (go_at_call 38; refine (sameSides_any H4.out.1 H4.out.2 (fun q hq => by have := (pathT_bd seed key t HG.out.ok q hq).2; unfold okK at this; omega) (by have := pathT_len seed key t; have := HZ.out; omega)).mono ?_; rintro e w5 ⟨rfl, ht5⟩; have hT5 : Touch Nil W w5 := hT4.trans ht5; clear ht5))
  go_wp2_with fail
  go_ret
  exact ⟨rfl, HTB.out.trans hT5⟩
set_option maxRecDepth 100000 in
set_option maxHeartbeats 2000000 in
/-- A place where nothing stands is asked for. -/
theorem asked4N_any {seed : Int} {R : Nat → Prop} {w : World} {mb bb : Nat} {ra : Option Addr} {t : Tree} {la : Option Addr} {ln lc : Nat} (h : MapAt seed R w mb bb ra t) (hp : PL w (.slice la ln lc) t.toL) {ka va ha : Option Addr} {kl kc vl vc hl hc : Nat} {key high : Key} (hk : BV w (.slice ka kl kc) key) (hh : BV w (.slice ha hl hc) high) (hkl : key.length ≤ 2000) (hhl : high.length ≤ 2000) (bo : Bool) (n : Int) (hn : -9223372036854775808 ≤ n ∧ n ≤ 9223372036854775807) (hlk : lookF t.toL n = none) :
    Calls Try.prog 63 #[.pointer (some ⟨mb, 0, none⟩), .int .u64 seed, .slice la ln lc, .agg #[.int .i64 4, .slice ka kl kc, .slice va vl vc, .slice ha hl hc, .bool bo, .int .i64 n]] w (TrueP w) := by
  obtain ⟨W, eW⟩ : ∃ W, w.alloc (.cells #[.int .i64 4, .slice ka kl kc, .slice va vl vc, .slice ha hl hc, .bool bo, .int .i64 n] 31) = W := ⟨_, rfl⟩
  have HTB := Lib.hid (show Touch Nil w W from by rw [← eW]; exact (Touch.refl Nil w).alloc _)
  obtain ⟨B, eB⟩ : ∃ B, w.heap.size = B := ⟨_, rfl⟩
  have HBX := Lib.hid (show ∀ w', Touch Nil W w' → w'.heap[B]? = some (.cells #[.int .i64 4, .slice ka kl kc, .slice va vl vc, .slice ha hl hc, .bool bo, .int .i64 n] 31 (0, 0)) from fun w' ht => by
    have h0 : W.heap[B]? = some (.cells #[.int .i64 4, .slice ka kl kc, .slice va vl vc, .slice ha hl hc, .bool bo, .int .i64 n] 31 (0, 0)) := by rw [← eW, ← eB]; exact heap_alloc_new _ _
    exact (ht.same B (lt_of_heap h0) fun c => c).trans h0)
  have hok := treeAt_ok h.tree
  have HOK := Lib.hid hok
  have HG := Lib.hid (h.good hok)
  have HZ := Lib.hid h.size
  have HMAP := Lib.hid (fun w' (ht : Touch Nil w w') => h.keepN ht)
  have HPL := Lib.hid (fun w' (ht : Touch Nil w w') => hp.keepN ht)
  have HKEY := Lib.hid (fun w' (ht : Touch Nil w w') => hk.keepN ht)
  have HHIGH := Lib.hid (fun w' (ht : Touch Nil w w') => hh.keepN ht)
  have HLL := Lib.hid (And.intro hkl hhl)
  have hlen := hp.len
  have HLEN := Lib.hid hlen
  have HLK := Lib.hid hlk
  have hnr : n < 0 ∨ (ln : Int) ≤ n := by
    unfold lookF at hlk
    split at hlk
    next h => exact .inl h
    next h =>
      rw [List.getElem?_eq_none_iff] at hlk
      exact .inr (by omega)
  clear hlk
  clear h hp hk hh hok hlen
  obtain ⟨x0, _, _, _, _, x5⟩ := cells6 (HBX.out W (Touch.refl Nil W))
  go_enter Try.func63, Try.ntmps63
  go_wp2_with fail
  try clear eW eB
  have HAT := Lib.hid (atV_map (HMAP.out _ HTB.out) hn)
  rw [HLK.out] at HAT
  have HRK := Lib.hid (fun w' (ht : Touch Nil W w') => rank_map (HMAP.out w' (HTB.out.trans ht)) (HKEY.out w' (HTB.out.trans ht)))
  have HRR := Lib.hid (fun w' (ht : Touch Nil W w') => rankR_any (HPL.out w' (HTB.out.trans ht)) (OkL.short HG.out.ok) (by rw [← size_toL]; have := HZ.out; omega) (HKEY.out w' (HTB.out.trans ht)) (by have := HLL.out.1; omega))
  generalize rankF key t.toL = rk at *
  refine HAT.out.mono ?_
  rintro e w2 ⟨rfl, ht2⟩
  have HT2 := Lib.hid ht2
  clear ht2 HAT x0 x5
  go_wp2_with fail
  obtain ⟨w3, ew3⟩ : ∃ w3, w2.alloc (.cells #[.slice none 0 0, .slice none 0 0] 45) = w3 := ⟨_, rfl⟩
  obtain ⟨g, eg⟩ : ∃ g, w2.heap.size = g := ⟨_, rfl⟩
  have HT3 := Lib.hid (show Touch Nil W w3 from by rw [← ew3]; exact HT2.out.alloc _)
  have HV3 := Lib.hid (show ∀ w', Touch Nil w3 w' → w'.heap[g]? = some (.cells #[.slice none 0 0, .slice none 0 0] 45 (0, 0)) from fun w' ht => by
    have h0 : w3.heap[g]? = some (.cells #[.slice none 0 0, .slice none 0 0] 45 (0, 0)) := by rw [← ew3, ← eg]; exact heap_alloc_new _ _
    exact (ht.same g (lt_of_heap h0) fun c => c).trans h0)
  rw [ew3, eg]
  clear ew3 eg
  have HCF := Lib.hid (fun w' (ht : Touch Nil w3 w') => show w'.cell? ⟨B, 1, none⟩ = some (.slice ka kl kc) ∧ Hid (Touch Nil w3 w') from ⟨(cells6 (HBX.out w' (HT3.out.trans ht))).2.1, Lib.hid ht⟩)
  have q1 : ((rk : Int) != (rk : Int)) = false := by simp
  go_region_held3 (fun w' => w'.cell? ⟨B, 1, none⟩ = some (.slice ka kl kc) ∧ Hid (Touch Nil w3 w'))
    (first | (with_reducible exact HCF.out _ (Touch.refl Nil w3).drew) | (with_reducible exact HCF.out _ hT4))
    (first
      | (go_at_call 54; refine (HRK.out _ HT3.out.drew).mono ?_; rintro e w9 ⟨rfl, hw9⟩; have hw9 := hw9.symm; subst hw9)
      | (go_at_call 42; refine (HRR.out _ HT3.out.drew).mono ?_; rintro e w4 ⟨rfl, ht4⟩; have hT4 : Touch Nil w3 w4 := (Touch.refl Nil w3).drew.trans ht4))
  obtain ⟨_, _, _, _, _, x5⟩ := cells6 (HBX.out w4 (HT3.out.trans hT4))
  obtain ⟨z0, z1⟩ := cells2 (HV3.out w4 hT4)
  have HT4 := Lib.hid (HTB.out.trans (HT3.out.trans hT4))
  by_cases hn0 : n < 0
  · have p1 : decide (n < 0) = true := by simpa using hn0
    go_wp2_with fail
    go_ret
    exact ⟨rfl, HT4.out⟩
  · have p1 : decide (n < 0) = false := by simpa using hn0
    have p2 : decide ((ln : Int) ≤ n) = true := by simp; omega
    go_wp2_with fail
    go_ret
    exact ⟨rfl, HT4.out⟩
set_option maxRecDepth 100000 in
set_option maxHeartbeats 2000000 in
/-- A place where a pair stands is asked for. -/
theorem asked4P_any {seed : Int} {R : Nat → Prop} {w : World} {mb bb : Nat} {ra : Option Addr} {t : Tree} {la : Option Addr} {ln lc : Nat} (h : MapAt seed R w mb bb ra t) (hp : PL w (.slice la ln lc) t.toL) {ka va ha : Option Addr} {kl kc vl vc hl hc : Nat} {key high : Key} (hk : BV w (.slice ka kl kc) key) (hh : BV w (.slice ha hl hc) high) (hkl : key.length ≤ 2000) (hhl : high.length ≤ 2000) (bo : Bool) (n : Int) (p : Key × Key) (hn : -9223372036854775808 ≤ n ∧ n ≤ 9223372036854775807) (hlk : lookF t.toL n = some p) :
    Calls Try.prog 63 #[.pointer (some ⟨mb, 0, none⟩), .int .u64 seed, .slice la ln lc, .agg #[.int .i64 4, .slice ka kl kc, .slice va vl vc, .slice ha hl hc, .bool bo, .int .i64 n]] w (TrueP w) := by
  obtain ⟨W, eW⟩ : ∃ W, w.alloc (.cells #[.int .i64 4, .slice ka kl kc, .slice va vl vc, .slice ha hl hc, .bool bo, .int .i64 n] 31) = W := ⟨_, rfl⟩
  have HTB := Lib.hid (show Touch Nil w W from by rw [← eW]; exact (Touch.refl Nil w).alloc _)
  obtain ⟨B, eB⟩ : ∃ B, w.heap.size = B := ⟨_, rfl⟩
  have HBX := Lib.hid (show ∀ w', Touch Nil W w' → w'.heap[B]? = some (.cells #[.int .i64 4, .slice ka kl kc, .slice va vl vc, .slice ha hl hc, .bool bo, .int .i64 n] 31 (0, 0)) from fun w' ht => by
    have h0 : W.heap[B]? = some (.cells #[.int .i64 4, .slice ka kl kc, .slice va vl vc, .slice ha hl hc, .bool bo, .int .i64 n] 31 (0, 0)) := by rw [← eW, ← eB]; exact heap_alloc_new _ _
    exact (ht.same B (lt_of_heap h0) fun c => c).trans h0)
  have hok := treeAt_ok h.tree
  have HOK := Lib.hid hok
  have HG := Lib.hid (h.good hok)
  have HZ := Lib.hid h.size
  have HMAP := Lib.hid (fun w' (ht : Touch Nil w w') => h.keepN ht)
  have HPL := Lib.hid (fun w' (ht : Touch Nil w w') => hp.keepN ht)
  have HKEY := Lib.hid (fun w' (ht : Touch Nil w w') => hk.keepN ht)
  have HHIGH := Lib.hid (fun w' (ht : Touch Nil w w') => hh.keepN ht)
  have HLL := Lib.hid (And.intro hkl hhl)
  have hlen := hp.len
  have HLEN := Lib.hid hlen
  have HLK := Lib.hid hlk
  obtain ⟨y, rfl⟩ : ∃ y : Nat, n = (y : Int) := by
    unfold lookF at hlk
    split at hlk
    · cases hlk
    next h => exact ⟨n.toNat, by omega⟩
  have hpy : t.toL[y]? = some p := by
    unfold lookF at hlk
    rw [if_neg (by omega), Int.toNat_natCast] at hlk
    exact hlk
  have hyl : y < ln := by rw [hlen]; exact (List.getElem?_eq_some_iff.1 hpy).1
  have HPY := Lib.hid hpy
  have HKP := Lib.hid (show okK p.1 p.2 from hok p (List.mem_of_getElem? hpy))
  clear hlk hpy
  clear h hp hk hh hok hlen
  obtain ⟨x0, _, _, _, _, x5⟩ := cells6 (HBX.out W (Touch.refl Nil W))
  go_enter Try.func63, Try.ntmps63
  go_wp2_with fail
  try clear eW eB
  have HAT := Lib.hid (atV_map (HMAP.out _ HTB.out) hn)
  rw [HLK.out] at HAT
  have HRK := Lib.hid (fun w' (ht : Touch Nil W w') => rank_map (HMAP.out w' (HTB.out.trans ht)) (HKEY.out w' (HTB.out.trans ht)))
  have HRR := Lib.hid (fun w' (ht : Touch Nil W w') => rankR_any (HPL.out w' (HTB.out.trans ht)) (OkL.short HG.out.ok) (by rw [← size_toL]; have := HZ.out; omega) (HKEY.out w' (HTB.out.trans ht)) (by have := HLL.out.1; omega))
  generalize rankF key t.toL = rk at *
  refine HAT.out.mono ?_
  rintro e w2 ⟨kx, ux, rfl, hkx, hux, ht2⟩
  obtain ⟨pka, pkl, pkc, rfl⟩ := hkx.form
  obtain ⟨pua, pul, puc, rfl⟩ := hux.form
  have HKX := Lib.hid hkx.bv
  have HUX := Lib.hid hux.bv
  have HT2 := Lib.hid ht2
  clear ht2 HAT x0 x5 hkx hux
  go_wp2_with fail
  obtain ⟨w3, ew3⟩ : ∃ w3, w2.alloc (.cells #[.slice pka pkl pkc, .slice pua pul puc] 45) = w3 := ⟨_, rfl⟩
  obtain ⟨g, eg⟩ : ∃ g, w2.heap.size = g := ⟨_, rfl⟩
  have HT3 := Lib.hid (show Touch Nil W w3 from by rw [← ew3]; exact HT2.out.alloc _)
  have HT23 := Lib.hid (show Touch Nil w2 w3 from by rw [← ew3]; exact (Touch.refl Nil w2).alloc _)
  have HV3 := Lib.hid (show ∀ w', Touch Nil w3 w' → w'.heap[g]? = some (.cells #[.slice pka pkl pkc, .slice pua pul puc] 45 (0, 0)) from fun w' ht => by
    have h0 : w3.heap[g]? = some (.cells #[.slice pka pkl pkc, .slice pua pul puc] 45 (0, 0)) := by rw [← ew3, ← eg]; exact heap_alloc_new _ _
    exact (ht.same g (lt_of_heap h0) fun c => c).trans h0)
  rw [ew3, eg]
  clear ew3 eg
  have HCF := Lib.hid (fun w' (ht : Touch Nil w3 w') => show w'.cell? ⟨B, 1, none⟩ = some (.slice ka kl kc) ∧ Hid (Touch Nil w3 w') from ⟨(cells6 (HBX.out w' (HT3.out.trans ht))).2.1, Lib.hid ht⟩)
  have q1 : ((rk : Int) != (rk : Int)) = false := by simp
  go_region_held3 (fun w' => w'.cell? ⟨B, 1, none⟩ = some (.slice ka kl kc) ∧ Hid (Touch Nil w3 w'))
    (first | (with_reducible exact HCF.out _ (Touch.refl Nil w3).drew) | (with_reducible exact HCF.out _ hT4))
    (first
      | (go_at_call 54; refine (HRK.out _ HT3.out.drew).mono ?_; rintro e w9 ⟨rfl, hw9⟩; have hw9 := hw9.symm; subst hw9)
      | (go_at_call 42; refine (HRR.out _ HT3.out.drew).mono ?_; rintro e w4 ⟨rfl, ht4⟩; have hT4 : Touch Nil w3 w4 := (Touch.refl Nil w3).drew.trans ht4))
  obtain ⟨_, _, _, _, _, x5⟩ := cells6 (HBX.out w4 (HT3.out.trans hT4))
  have HT34 := Lib.hid hT4
  have p1 : decide ((y : Int) < 0) = false := by simp
  have p2 : decide ((ln : Int) ≤ (y : Int)) = false := by simp; omega
  have i1 : (y : Int) < (ln : Int) := by omega
  have i2 : (0 : Int) ≤ (y : Int) := by omega
  obtain ⟨b, off, rfl, _, f, hc, hf⟩ := (HPL.out w4 (HTB.out.trans (HT3.out.trans hT4))).at HPY.out
  have c0 := hc 0 (by omega)
  have c1 := hc 1 (by omega)
  rw [Nat.add_zero] at c0
  have hk0 : BV w4 (f 0) p.1 := hf 0 (by omega)
  have hu0 : BV w4 (f 1) p.2 := hf 1 (by omega)
  obtain ⟨fa, fc, ef⟩ := hk0.len'
  obtain ⟨ga, gc, eg⟩ := hu0.len'
  rw [ef] at c0 hk0
  rw [eg] at c1 hu0
  have HST := Lib.hid (fun w' (ht : Touch Nil w4 w') => show w'.cell? ⟨g, 0, none⟩ = some (.slice pka pkl pkc) ∧ w'.cell? ⟨g, 1, none⟩ = some (.slice pua pul puc) ∧ w'.cell? ⟨B, 5, none⟩ = some (.int .i64 (y : Int)) ∧ w'.cell? ⟨b, off + y * 2, none⟩ = some (.slice fa p.1.length fc) ∧ w'.cell? ⟨b, off + y * 2 + 1, none⟩ = some (.slice ga p.2.length gc) ∧ Hid (Touch Nil w4 w') from
    ⟨(cells2 (HV3.out w' (HT34.out.trans ht))).1, (cells2 (HV3.out w' (HT34.out.trans ht))).2, (cells6 (HBX.out w' (HT3.out.trans (HT34.out.trans ht)))).2.2.2.2.2, cell_step c0 ht, cell_step c1 ht, Lib.hid ht⟩)
  have HS1 := Lib.hid (fun w' (ht : Touch Nil w4 w') => same_any (HKX.out.keepN (HT23.out.trans (HT34.out.trans ht))) (hk0.keepN ht) (by have := HKP.out.2.1; omega) (by have := HKP.out.2.1; omega))
  have HS2 := Lib.hid (fun w' (ht : Touch Nil w4 w') => same_any (HUX.out.keepN (HT23.out.trans (HT34.out.trans ht))) (hu0.keepN ht) (by have := HKP.out.2.2; omega) (by have := HKP.out.2.2; omega))
  simp only [decide_true] at HS1 HS2
  generalize p.1.length = plk at *
  generalize p.2.length = plu at *
  clear hc hf ef eg hk0 hu0
  go_wp2_with fail
  go_region_held3 (fun w' => w'.cell? ⟨g, 0, none⟩ = some (.slice pka pkl pkc) ∧ w'.cell? ⟨g, 1, none⟩ = some (.slice pua pul puc) ∧ w'.cell? ⟨B, 5, none⟩ = some (.int .i64 (y : Int)) ∧ w'.cell? ⟨b, off + y * 2, none⟩ = some (.slice fa plk fc) ∧ w'.cell? ⟨b, off + y * 2 + 1, none⟩ = some (.slice ga plu gc) ∧ Hid (Touch Nil w4 w'))
    (first | (with_reducible exact HST.out _ (Touch.refl Nil w4).drew) | (with_reducible exact HST.out _ hT6) | (with_reducible exact HST.out _ hT5))
    (first
      | (go_at_call_of 26 (Value.slice pka pkl pkc); refine (HS1.out _ (Touch.refl Nil w4).drew).mono ?_; rintro e w5 ⟨rfl, ht5⟩; have hT5 : Touch Nil w4 w5 := (Touch.refl Nil w4).drew.trans ht5; clear ht5)
      | (go_at_call_of 26 (Value.slice pua pul puc); refine (HS2.out _ hT5).mono ?_; rintro e w6 ⟨rfl, ht6⟩; have hT6 : Touch Nil w4 w6 := hT5.trans ht6; clear ht6))
  go_wp2_with fail
  go_ret
  exact ⟨rfl, HTB.out.trans (HT3.out.trans (HT34.out.trans hT6))⟩
/-- Whatever is asked. -/
theorem asked_any {seed : Int} {R : Nat → Prop} {w : World} {mb bb : Nat} {ra : Option Addr} {t : Tree} {la : Option Addr} {ln lc : Nat} (h : MapAt seed R w mb bb ra t) (hp : PL w (.slice la ln lc) t.toL) {ka va ha : Option Addr} {kl kc vl vc hl hc : Nat} {key high : Key} (hk : BV w (.slice ka kl kc) key) (hh : BV w (.slice ha hl hc) high) (hkl : key.length ≤ 2000) (hhl : high.length ≤ 2000) (bo : Bool) (n k : Int) (hn : -9223372036854775808 ≤ n ∧ n ≤ 9223372036854775807) :
    Calls Try.prog 63 #[.pointer (some ⟨mb, 0, none⟩), .int .u64 seed, .slice la ln lc, .agg #[.int .i64 k, .slice ka kl kc, .slice va vl vc, .slice ha hl hc, .bool bo, .int .i64 n]] w (TrueP w) := by
  by_cases h2 : k = 2
  · subst h2; exact asked2_any h hp hk hkl bo n
  by_cases h3 : k = 3
  · subst h3; exact asked3_any h hp hk hh hkl hhl bo n
  by_cases h4 : k = 4
  · subst h4
    cases hq : lookF t.toL n with
    | none => exact asked4N_any h hp hk hh hkl hhl bo n hn hq
    | some p => exact asked4P_any h hp hk hh hkl hhl bo n p hn hq
  by_cases h5 : k = 5
  · subst h5; exact asked5_any h hp hk hh hkl hhl bo n
  by_cases h6 : k = 6
  · subst h6; exact asked6_any h hp hk hh hkl hhl bo n
  by_cases h7 : k = 7
  · subst h7; exact asked7_any h hp hk hh hkl hhl bo n
  exact askedX_any h hp hk hh hkl hhl bo n k (by omega)
end Go.Proofs.Ytkkpcndpjkebkaa
