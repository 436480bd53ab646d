import Derived.Test.YtkkpcndpjkebkaaPlayD
/- What OrderPlays does: joins, kinship; all kinds. -/
namespace Go.Proofs.Ytkkpcndpjkebkaa
open Go.ChangeShapes Go.WideShapes Go.ChangeAt Go.RowKit Go.Deep
set_option maxRecDepth 100000 in
set_option maxHeartbeats 4000000 in
/-- The two are joined. -/
theorem done9N_any {seed : Int} {s0 N : Nat} {R S : Nat → Prop} {w : World} {ma ba mc bc : Nat} {ra rc : Option Addr} {t u : Tree} {xa ya : Option Addr} {xn xc yn yc : Nat} (h : Bo seed s0 N R S w ma ba mc bc ra rc t u (.slice xa xn xc) (.slice ya yn yc)) (hN : N ≤ w.heap.size) {ka va ha : Option Addr} {kl kc vl vc hl hc : Nat} {key val high : Key} (hk : BV w (.slice ka kl kc) key) (hv : BV w (.slice va vl vc) val) (hh : BV w (.slice ha hl hc) high) (hkl : key.length ≤ 2000 ∧ val.length ≤ 2000 ∧ high.length ≤ 2000) (bo : Bool) (n : Int) (hn : -9223372036854775808 ≤ n ∧ n ≤ 9223372036854775807) (hsz : t.size + u.size ≤ 1000) (hf : fitsB t.toL u.toL = false) :
    Calls Try.prog 17 #[.agg #[.pointer (some ⟨ma, 0, none⟩), .pointer (some ⟨mc, 0, none⟩), .slice xa xn xc, .slice ya yn yc, .bool true], .int .u64 seed, .agg #[.int .i64 9, .slice ka kl kc, .slice va vl vc, .slice ha hl hc, .bool bo, .int .i64 n]] w (DoneP seed s0 N (t.size + u.size + 1) w) := by
  obtain ⟨W1, e1⟩ : ∃ W1, w.alloc (.cells #[.pointer (some ⟨ma, 0, none⟩), .pointer (some ⟨mc, 0, none⟩), .slice xa xn xc, .slice ya yn yc, .bool true] 28) = W1 := ⟨_, rfl⟩
  obtain ⟨W2, e2⟩ : ∃ W2, W1.alloc (.cells #[.int .i64 9, .slice ka kl kc, .slice va vl vc, .slice ha hl hc, .bool bo, .int .i64 n] 31) = W2 := ⟨_, rfl⟩
  obtain ⟨W3, e3⟩ : ∃ W3, W2.alloc (.cells #[.pointer none, .pointer none, .slice none 0 0, .slice none 0 0, .bool false] 28) = W3 := ⟨_, rfl⟩
  obtain ⟨B3, f3⟩ : ∃ B3, w.heap.size = B3 := ⟨_, rfl⟩
  obtain ⟨B5, f5⟩ : ∃ B5, W1.heap.size = B5 := ⟨_, rfl⟩
  obtain ⟨B6, f6⟩ : ∃ B6, W2.heap.size = B6 := ⟨_, rfl⟩
  have t1 : Touch Nil w W1 := by rw [← e1]; exact (Touch.refl Nil w).alloc _
  have t2 : Touch Nil W1 W2 := by rw [← e2]; exact (Touch.refl Nil W1).alloc _
  have t3 : Touch Nil W2 W3 := by rw [← e3]; exact (Touch.refl Nil W2).alloc _
  have HTW := Lib.hid (t1.trans (t2.trans t3))
  have z1 : W1.heap[B3]? = some (.cells #[.pointer (some ⟨ma, 0, none⟩), .pointer (some ⟨mc, 0, none⟩), .slice xa xn xc, .slice ya yn yc, .bool true] 28 (0, 0)) := by rw [← e1, ← f3]; exact heap_alloc_new _ _
  have z2 : W2.heap[B5]? = some (.cells #[.int .i64 9, .slice ka kl kc, .slice va vl vc, .slice ha hl hc, .bool bo, .int .i64 n] 31 (0, 0)) := by rw [← e2, ← f5]; exact heap_alloc_new _ _
  have HB6 := Lib.hid (show W3.heap[B6]? = some (.cells #[.pointer none, .pointer none, .slice none 0 0, .slice none 0 0, .bool false] 28 (0, 0)) from by rw [← e3, ← f6]; exact heap_alloc_new _ _)
  have HB5 := Lib.hid ((t3.same B5 (lt_of_heap z2) fun c => c).trans z2)
  have HB3 := Lib.hid (((t2.trans t3).same B3 (lt_of_heap z1) fun c => c).trans z1)
  have HLT := Lib.hid (show B3 < B5 ∧ B5 < B6 ∧ N ≤ B3 ∧ ba < B3 ∧ bc < B3 ∧ ma < B3 ∧ mc < B3 from by
    have g1 := lt_of_heap h.a.body
    have g2 := lt_of_heap h.c.body
    have g3 := lt_of_heap h.a.top
    have g4 := lt_of_heap h.c.top
    have g5 := lt_of_heap z1
    have g6 := lt_of_heap z2
    omega)
  have HSEQ := Lib.hid (show B5 = w.heap.size + 1 ∧ B6 = w.heap.size + 2 from ⟨by rw [← f5, ← e1, nblk_alloc], by rw [← f6, ← e2, nblk_alloc, ← e1, nblk_alloc]⟩)
  have HBO := Lib.hid (h.keepN HTW.out)
  have HBW := Lib.hid h
  have HWZ := Lib.hid f3
  have HK := Lib.hid (And.intro (hk.keepN HTW.out) (And.intro (hv.keepN HTW.out) (hh.keepN HTW.out)))
  have HKL := Lib.hid hkl
  have HN := Lib.hid hn
  have HSZ := Lib.hid hsz
  have HXN := Lib.hid (show xn = t.size ∧ yn = u.size from ⟨by rw [size_toL]; exact h.x.len, by rw [size_toL]; exact h.y.len⟩)
  have HF := Lib.hid hf
  clear hf
  clear h hk hv hh hkl hn hsz t1 t2 t3 z1 z2 hN
  obtain ⟨a0, a1, a2, a3, a4⟩ := cells5 HB3.out
  obtain ⟨b0, b1, b2, b3, b4, b5⟩ := cells6 HB5.out
  have fz := froz HB3.out
  go_enter Try.func17, Try.ntmps17
  go_wp2_with fail
  try clear e1 e2 e3 f3 f5 f6
  have HJ := Lib.hid (joinedF_bad HBO.out (by have := lt_of_heap HB6.out; have := HLT.out; omega) HSZ.out HF.out)
  clear a0 a1 a2 a3 a4 b0 b1 b2 b3 b4 b5 fz
  refine HJ.out.mono ?_
  rintro e w4 ⟨rfl, ht4⟩
  have HT4 := Lib.hid ht4
  have hb6 := (ht4.same B6 (lt_of_heap HB6.out) (fun hs => by have hs : W3.heap.size ≤ B6 := hs; have := lt_of_heap HB6.out; omega)).trans HB6.out
  obtain ⟨c0, c1, c2, c3, c4⟩ := cells5 hb6
  have fz6 := froz hb6
  have HB64 := Lib.hid hb6
  clear hb6 ht4 HJ
  go_wp2_with fail
  (try simp only [Exit.inBlock, Exit.then])
  refine bodyPost_ret (ret5 rfl rfl (put5_heap HB64.out (.pointer (some ⟨ma, 0, none⟩)) (.pointer (some ⟨mc, 0, none⟩)) (.slice xa xn xc) (.slice ya yn yc) (.bool true))) rfl ?_
  have hto : Touch (From B3) w (put5 w4 B6 (.pointer (some ⟨ma, 0, none⟩)) (.pointer (some ⟨mc, 0, none⟩)) (.slice xa xn xc) (.slice ya yn yc) (.bool true)) :=
    put5_touch ((HTW.out.of_nil (S := From B3)).trans (HT4.out.mono fun b _ hs => show B3 ≤ b from by have hs : W3.heap.size ≤ b := hs; have := lt_of_heap HB6.out; have := HLT.out; omega)) (fun _ => show B3 ≤ B6 from by have := HLT.out; omega) _ _ _ _ _
  exact ⟨R, S, ma, ba, mc, bc, ra, rc, t, u, _, _, _, _, _, _, rfl, HBW.out.far (Nat.le_of_eq HWZ.out) hto, Nat.le_succ _, hto.mono fun b _ hs => by have hs : B3 ≤ b := hs; have := HLT.out; have := HBW.out.sl; have := HWZ.out; exact ⟨by omega, by omega⟩⟩
set_option maxRecDepth 100000 in
set_option maxHeartbeats 4000000 in
/-- The two are joined. -/
theorem done9Y_any {seed : Int} {s0 N : Nat} {R S : Nat → Prop} {w : World} {ma ba mc bc : Nat} {ra rc : Option Addr} {t u : Tree} {xa ya : Option Addr} {xn xc yn yc : Nat} (h : Bo seed s0 N R S w ma ba mc bc ra rc t u (.slice xa xn xc) (.slice ya yn yc)) (hN : N ≤ w.heap.size) {ka va ha : Option Addr} {kl kc vl vc hl hc : Nat} {key val high : Key} (hk : BV w (.slice ka kl kc) key) (hv : BV w (.slice va vl vc) val) (hh : BV w (.slice ha hl hc) high) (hkl : key.length ≤ 2000 ∧ val.length ≤ 2000 ∧ high.length ≤ 2000) (bo : Bool) (n : Int) (hn : -9223372036854775808 ≤ n ∧ n ≤ 9223372036854775807) (hsz : t.size + u.size ≤ 1000) (hf : fitsB t.toL u.toL = true) :
    Calls Try.prog 17 #[.agg #[.pointer (some ⟨ma, 0, none⟩), .pointer (some ⟨mc, 0, none⟩), .slice xa xn xc, .slice ya yn yc, .bool true], .int .u64 seed, .agg #[.int .i64 9, .slice ka kl kc, .slice va vl vc, .slice ha hl hc, .bool bo, .int .i64 n]] w (DoneP seed s0 N (t.size + u.size + 1) w) := by
  obtain ⟨W1, e1⟩ : ∃ W1, w.alloc (.cells #[.pointer (some ⟨ma, 0, none⟩), .pointer (some ⟨mc, 0, none⟩), .slice xa xn xc, .slice ya yn yc, .bool true] 28) = W1 := ⟨_, rfl⟩
  obtain ⟨W2, e2⟩ : ∃ W2, W1.alloc (.cells #[.int .i64 9, .slice ka kl kc, .slice va vl vc, .slice ha hl hc, .bool bo, .int .i64 n] 31) = W2 := ⟨_, rfl⟩
  obtain ⟨W3, e3⟩ : ∃ W3, W2.alloc (.cells #[.pointer none, .pointer none, .slice none 0 0, .slice none 0 0, .bool false] 28) = W3 := ⟨_, rfl⟩
  obtain ⟨B3, f3⟩ : ∃ B3, w.heap.size = B3 := ⟨_, rfl⟩
  obtain ⟨B5, f5⟩ : ∃ B5, W1.heap.size = B5 := ⟨_, rfl⟩
  obtain ⟨B6, f6⟩ : ∃ B6, W2.heap.size = B6 := ⟨_, rfl⟩
  have t1 : Touch Nil w W1 := by rw [← e1]; exact (Touch.refl Nil w).alloc _
  have t2 : Touch Nil W1 W2 := by rw [← e2]; exact (Touch.refl Nil W1).alloc _
  have t3 : Touch Nil W2 W3 := by rw [← e3]; exact (Touch.refl Nil W2).alloc _
  have HTW := Lib.hid (t1.trans (t2.trans t3))
  have z1 : W1.heap[B3]? = some (.cells #[.pointer (some ⟨ma, 0, none⟩), .pointer (some ⟨mc, 0, none⟩), .slice xa xn xc, .slice ya yn yc, .bool true] 28 (0, 0)) := by rw [← e1, ← f3]; exact heap_alloc_new _ _
  have z2 : W2.heap[B5]? = some (.cells #[.int .i64 9, .slice ka kl kc, .slice va vl vc, .slice ha hl hc, .bool bo, .int .i64 n] 31 (0, 0)) := by rw [← e2, ← f5]; exact heap_alloc_new _ _
  have HB6 := Lib.hid (show W3.heap[B6]? = some (.cells #[.pointer none, .pointer none, .slice none 0 0, .slice none 0 0, .bool false] 28 (0, 0)) from by rw [← e3, ← f6]; exact heap_alloc_new _ _)
  have HB5 := Lib.hid ((t3.same B5 (lt_of_heap z2) fun c => c).trans z2)
  have HB3 := Lib.hid (((t2.trans t3).same B3 (lt_of_heap z1) fun c => c).trans z1)
  have HLT := Lib.hid (show B3 < B5 ∧ B5 < B6 ∧ N ≤ B3 ∧ ba < B3 ∧ bc < B3 ∧ ma < B3 ∧ mc < B3 from by
    have g1 := lt_of_heap h.a.body
    have g2 := lt_of_heap h.c.body
    have g3 := lt_of_heap h.a.top
    have g4 := lt_of_heap h.c.top
    have g5 := lt_of_heap z1
    have g6 := lt_of_heap z2
    omega)
  have HSEQ := Lib.hid (show B5 = w.heap.size + 1 ∧ B6 = w.heap.size + 2 from ⟨by rw [← f5, ← e1, nblk_alloc], by rw [← f6, ← e2, nblk_alloc, ← e1, nblk_alloc]⟩)
  have HBO := Lib.hid (h.keepN HTW.out)
  have HBW := Lib.hid h
  have HWZ := Lib.hid f3
  have HK := Lib.hid (And.intro (hk.keepN HTW.out) (And.intro (hv.keepN HTW.out) (hh.keepN HTW.out)))
  have HKL := Lib.hid hkl
  have HN := Lib.hid hn
  have HSZ := Lib.hid hsz
  have HXN := Lib.hid (show xn = t.size ∧ yn = u.size from ⟨by rw [size_toL]; exact h.x.len, by rw [size_toL]; exact h.y.len⟩)
  have HF := Lib.hid hf
  clear hf
  clear h hk hv hh hkl hn hsz t1 t2 t3 z1 z2 hN
  obtain ⟨a0, a1, a2, a3, a4⟩ := cells5 HB3.out
  obtain ⟨b0, b1, b2, b3, b4, b5⟩ := cells6 HB5.out
  have fz := froz HB3.out
  go_enter Try.func17, Try.ntmps17
  go_wp2_with fail
  try clear e1 e2 e3 f3 f5 f6
  have HJ := Lib.hid (joinedF_good HBO.out (by have := lt_of_heap HB6.out; have := HLT.out; omega) HSZ.out HF.out)
  clear a0 a1 a2 a3 a4 b0 b1 b2 b3 b4 b5 fz
  refine HJ.out.mono ?_
  rintro e w4 ⟨mj, bj, rj, R', va8, vl8, vc8, rfl, hmj, hma, hpl, hrow, hlm, hlb, hR', ht4⟩
  have HT4 := Lib.hid ht4
  have HMJ := Lib.hid hmj
  have HMA := Lib.hid hma
  have HPL := Lib.hid (And.intro hpl hrow)
  have HLB := Lib.hid (And.intro hlm hlb)
  have HRJ := Lib.hid hR'
  have g3 := lt_of_heap HB6.out
  have g1 := HLT.out
  have hb6 := (ht4.same B6 (lt_of_heap HB6.out) (fun hs => by rcases hs with hs | hs | hs <;> omega)).trans HB6.out
  obtain ⟨c0, c1, c2, c3, c4⟩ := cells5 hb6
  have fz6 := froz hb6
  have HB64 := Lib.hid hb6
  clear hb6 ht4 HJ hmj hma hpl hrow hlm hlb hR' g3 g1
  go_wp2_with fail
  (try simp only [Exit.inBlock, Exit.then])
  refine bodyPost_ret (ret5 rfl rfl (put5_heap HB64.out (.pointer (some ⟨mj, 0, none⟩)) (.pointer (some ⟨ma, 0, none⟩)) (.slice va8 vl8 vc8) (.slice none 0 0) (.bool true))) rfl ?_
  have htF : Touch (Just B6) w4 (put5 w4 B6 (.pointer (some ⟨mj, 0, none⟩)) (.pointer (some ⟨ma, 0, none⟩)) (.slice va8 vl8 vc8) (.slice none 0 0) (.bool true)) := put5_touch (S := Just B6) (Touch.refl _ w4) (fun _ => rfl) _ _ _ _ _
  have g3 := lt_of_heap HB6.out
  have g1 := HLT.out
  have g2 := HLB.out
  have g4 := HT4.out.size
  have g5 := htF.size
  have hp6 : Pod w4 B6 := ⟨_, _, _, _, _, _, HB64.out, ⟨_, _, _, rfl⟩, ⟨_, _, _, rfl⟩⟩
  have hto : Touch (fun b => N ≤ b ∧ b ≠ s0) w (put5 w4 B6 (.pointer (some ⟨mj, 0, none⟩)) (.pointer (some ⟨ma, 0, none⟩)) (.slice va8 vl8 vc8) (.slice none 0 0) (.bool true)) :=
    ((HTW.out.of_nil (S := fun b => N ≤ b ∧ b ≠ s0)).trans (HT4.out.mono fun b _ hs => show N ≤ b ∧ b ≠ s0 from by have := HBW.out.lo; have := HBW.out.av.1; have := HBW.out.sl; have := HWZ.out; have := HTW.out.size; rcases hs with rfl | rfl | hs <;> omega)).trans (htF.mono fun b _ hs => show N ≤ b ∧ b ≠ s0 from by have hs : b = B6 := hs; have := HBW.out.sl; have := HWZ.out; omega)
  have hra : ∀ b, R' b → b ≠ B6 ∧ b ≠ ba := fun b hb => by
    have hw := HWZ.out
    refine ⟨fun e => ?_, fun e => ?_⟩ <;> subst e
    · rcases (HRJ.out _ hb).1 with hb | hb | hb
      · have := HBW.out.lr.1 _ hb; omega
      · have := HBW.out.lr.2 _ hb; omega
      · omega
    · rcases (HRJ.out _ hb).1 with hb | hb | hb
      · exact HBO.out.a.rb hb
      · exact HBO.out.rs.1 hb
      · omega
  refine ⟨R', fun _ => False, mj, bj, ma, ba, rj, none, _, .nil, _, _, _, _, _, _, rfl, ⟨HMJ.out.keep htF (fun b hb hs => (hra b hb).1 hs) (fun hs => by have hs : mj = B6 := hs; omega) (fun hs => by have hs : bj = B6 := hs; omega), HMA.out.keep htF (fun _ c => c.elim) (fun hs => by have hs : ma = B6 := hs; omega) (fun hs => by have hs : ba = B6 := hs; omega), PL.keepAt HPL.out.1 (fun b hb e => by have := HPL.out.2 b hb; omega) hp6 htF, RL.nil, by omega, ⟨by omega, by omega⟩, ⟨fun c => c, fun c => (hra _ c).2 rfl⟩, ⟨by omega, HBW.out.lo.1⟩, ⟨fun b hb => Nat.lt_of_lt_of_le (HRJ.out b hb).2 g5, fun _ c => c.elim⟩, ⟨⟨by have := HBW.out.sl; have := HWZ.out; have := HTW.out.size; omega, by have := HBW.out.sl; have := HWZ.out; have := HTW.out.size; omega, HBW.out.av.1.1, HBW.out.av.1.2.1⟩, fun c => by
      rcases (HRJ.out _ c).1 with hb | hb | hb
      · first | exact HBW.out.av.2.1 hb | exact HBW.out.av.2.2.1 hb
      · first | exact HBW.out.av.2.2.1 hb | exact HBW.out.av.2.1 hb
      · have := HBW.out.sl; have := HWZ.out; have := HTW.out.size; omega, fun c => c, fun c => by have := HPL.out.2 _ c; have := HBW.out.sl; have := HWZ.out; have := HTW.out.size; omega, fun c => by simp [OwnOf, Value.ownBlock] at c⟩, Nat.lt_of_lt_of_le HBW.out.sl hto.size⟩, by rw [merge_size]; simp only [Tree.size]; omega, hto⟩
set_option maxRecDepth 100000 in
set_option maxHeartbeats 4000000 in
/-- The two are joined. -/
theorem done10N_any {seed : Int} {s0 N : Nat} {R S : Nat → Prop} {w : World} {ma ba mc bc : Nat} {ra rc : Option Addr} {t u : Tree} {xa ya : Option Addr} {xn xc yn yc : Nat} (h : Bo seed s0 N R S w ma ba mc bc ra rc t u (.slice xa xn xc) (.slice ya yn yc)) (hN : N ≤ w.heap.size) {ka va ha : Option Addr} {kl kc vl vc hl hc : Nat} {key val high : Key} (hk : BV w (.slice ka kl kc) key) (hv : BV w (.slice va vl vc) val) (hh : BV w (.slice ha hl hc) high) (hkl : key.length ≤ 2000 ∧ val.length ≤ 2000 ∧ high.length ≤ 2000) (bo : Bool) (n : Int) (hn : -9223372036854775808 ≤ n ∧ n ≤ 9223372036854775807) (hsz : t.size + u.size ≤ 1000) (hf : fitsB u.toL t.toL = false) :
    Calls Try.prog 17 #[.agg #[.pointer (some ⟨ma, 0, none⟩), .pointer (some ⟨mc, 0, none⟩), .slice xa xn xc, .slice ya yn yc, .bool true], .int .u64 seed, .agg #[.int .i64 10, .slice ka kl kc, .slice va vl vc, .slice ha hl hc, .bool bo, .int .i64 n]] w (DoneP seed s0 N (t.size + u.size + 1) w) := by
  obtain ⟨W1, e1⟩ : ∃ W1, w.alloc (.cells #[.pointer (some ⟨ma, 0, none⟩), .pointer (some ⟨mc, 0, none⟩), .slice xa xn xc, .slice ya yn yc, .bool true] 28) = W1 := ⟨_, rfl⟩
  obtain ⟨W2, e2⟩ : ∃ W2, W1.alloc (.cells #[.int .i64 10, .slice ka kl kc, .slice va vl vc, .slice ha hl hc, .bool bo, .int .i64 n] 31) = W2 := ⟨_, rfl⟩
  obtain ⟨W3, e3⟩ : ∃ W3, W2.alloc (.cells #[.pointer none, .pointer none, .slice none 0 0, .slice none 0 0, .bool false] 28) = W3 := ⟨_, rfl⟩
  obtain ⟨B3, f3⟩ : ∃ B3, w.heap.size = B3 := ⟨_, rfl⟩
  obtain ⟨B5, f5⟩ : ∃ B5, W1.heap.size = B5 := ⟨_, rfl⟩
  obtain ⟨B6, f6⟩ : ∃ B6, W2.heap.size = B6 := ⟨_, rfl⟩
  have t1 : Touch Nil w W1 := by rw [← e1]; exact (Touch.refl Nil w).alloc _
  have t2 : Touch Nil W1 W2 := by rw [← e2]; exact (Touch.refl Nil W1).alloc _
  have t3 : Touch Nil W2 W3 := by rw [← e3]; exact (Touch.refl Nil W2).alloc _
  have HTW := Lib.hid (t1.trans (t2.trans t3))
  have z1 : W1.heap[B3]? = some (.cells #[.pointer (some ⟨ma, 0, none⟩), .pointer (some ⟨mc, 0, none⟩), .slice xa xn xc, .slice ya yn yc, .bool true] 28 (0, 0)) := by rw [← e1, ← f3]; exact heap_alloc_new _ _
  have z2 : W2.heap[B5]? = some (.cells #[.int .i64 10, .slice ka kl kc, .slice va vl vc, .slice ha hl hc, .bool bo, .int .i64 n] 31 (0, 0)) := by rw [← e2, ← f5]; exact heap_alloc_new _ _
  have HB6 := Lib.hid (show W3.heap[B6]? = some (.cells #[.pointer none, .pointer none, .slice none 0 0, .slice none 0 0, .bool false] 28 (0, 0)) from by rw [← e3, ← f6]; exact heap_alloc_new _ _)
  have HB5 := Lib.hid ((t3.same B5 (lt_of_heap z2) fun c => c).trans z2)
  have HB3 := Lib.hid (((t2.trans t3).same B3 (lt_of_heap z1) fun c => c).trans z1)
  have HLT := Lib.hid (show B3 < B5 ∧ B5 < B6 ∧ N ≤ B3 ∧ ba < B3 ∧ bc < B3 ∧ ma < B3 ∧ mc < B3 from by
    have g1 := lt_of_heap h.a.body
    have g2 := lt_of_heap h.c.body
    have g3 := lt_of_heap h.a.top
    have g4 := lt_of_heap h.c.top
    have g5 := lt_of_heap z1
    have g6 := lt_of_heap z2
    omega)
  have HSEQ := Lib.hid (show B5 = w.heap.size + 1 ∧ B6 = w.heap.size + 2 from ⟨by rw [← f5, ← e1, nblk_alloc], by rw [← f6, ← e2, nblk_alloc, ← e1, nblk_alloc]⟩)
  have HBO := Lib.hid (h.keepN HTW.out)
  have HBW := Lib.hid h
  have HWZ := Lib.hid f3
  have HK := Lib.hid (And.intro (hk.keepN HTW.out) (And.intro (hv.keepN HTW.out) (hh.keepN HTW.out)))
  have HKL := Lib.hid hkl
  have HN := Lib.hid hn
  have HSZ := Lib.hid hsz
  have HXN := Lib.hid (show xn = t.size ∧ yn = u.size from ⟨by rw [size_toL]; exact h.x.len, by rw [size_toL]; exact h.y.len⟩)
  have HF := Lib.hid hf
  clear hf
  clear h hk hv hh hkl hn hsz t1 t2 t3 z1 z2 hN
  obtain ⟨a0, a1, a2, a3, a4⟩ := cells5 HB3.out
  obtain ⟨b0, b1, b2, b3, b4, b5⟩ := cells6 HB5.out
  have fz := froz HB3.out
  go_enter Try.func17, Try.ntmps17
  go_wp2_with fail
  try clear e1 e2 e3 f3 f5 f6
  have HJ := Lib.hid (joinedT_bad HBO.out (by have := lt_of_heap HB6.out; have := HLT.out; omega) HSZ.out HF.out)
  clear a0 a1 a2 a3 a4 b0 b1 b2 b3 b4 b5 fz
  refine HJ.out.mono ?_
  rintro e w4 ⟨rfl, ht4⟩
  have HT4 := Lib.hid ht4
  have hb6 := (ht4.same B6 (lt_of_heap HB6.out) (fun hs => by have hs : W3.heap.size ≤ B6 := hs; have := lt_of_heap HB6.out; omega)).trans HB6.out
  obtain ⟨c0, c1, c2, c3, c4⟩ := cells5 hb6
  have fz6 := froz hb6
  have HB64 := Lib.hid hb6
  clear hb6 ht4 HJ
  go_wp2_with fail
  (try simp only [Exit.inBlock, Exit.then])
  refine bodyPost_ret (ret5 rfl rfl (put5_heap HB64.out (.pointer (some ⟨ma, 0, none⟩)) (.pointer (some ⟨mc, 0, none⟩)) (.slice xa xn xc) (.slice ya yn yc) (.bool true))) rfl ?_
  have hto : Touch (From B3) w (put5 w4 B6 (.pointer (some ⟨ma, 0, none⟩)) (.pointer (some ⟨mc, 0, none⟩)) (.slice xa xn xc) (.slice ya yn yc) (.bool true)) :=
    put5_touch ((HTW.out.of_nil (S := From B3)).trans (HT4.out.mono fun b _ hs => show B3 ≤ b from by have hs : W3.heap.size ≤ b := hs; have := lt_of_heap HB6.out; have := HLT.out; omega)) (fun _ => show B3 ≤ B6 from by have := HLT.out; omega) _ _ _ _ _
  exact ⟨R, S, ma, ba, mc, bc, ra, rc, t, u, _, _, _, _, _, _, rfl, HBW.out.far (Nat.le_of_eq HWZ.out) hto, Nat.le_succ _, hto.mono fun b _ hs => by have hs : B3 ≤ b := hs; have := HLT.out; have := HBW.out.sl; have := HWZ.out; exact ⟨by omega, by omega⟩⟩
set_option maxRecDepth 100000 in
set_option maxHeartbeats 4000000 in
/-- The two are joined. -/
theorem done10Y_any {seed : Int} {s0 N : Nat} {R S : Nat → Prop} {w : World} {ma ba mc bc : Nat} {ra rc : Option Addr} {t u : Tree} {xa ya : Option Addr} {xn xc yn yc : Nat} (h : Bo seed s0 N R S w ma ba mc bc ra rc t u (.slice xa xn xc) (.slice ya yn yc)) (hN : N ≤ w.heap.size) {ka va ha : Option Addr} {kl kc vl vc hl hc : Nat} {key val high : Key} (hk : BV w (.slice ka kl kc) key) (hv : BV w (.slice va vl vc) val) (hh : BV w (.slice ha hl hc) high) (hkl : key.length ≤ 2000 ∧ val.length ≤ 2000 ∧ high.length ≤ 2000) (bo : Bool) (n : Int) (hn : -9223372036854775808 ≤ n ∧ n ≤ 9223372036854775807) (hsz : t.size + u.size ≤ 1000) (hf : fitsB u.toL t.toL = true) :
    Calls Try.prog 17 #[.agg #[.pointer (some ⟨ma, 0, none⟩), .pointer (some ⟨mc, 0, none⟩), .slice xa xn xc, .slice ya yn yc, .bool true], .int .u64 seed, .agg #[.int .i64 10, .slice ka kl kc, .slice va vl vc, .slice ha hl hc, .bool bo, .int .i64 n]] w (DoneP seed s0 N (t.size + u.size + 1) w) := by
  obtain ⟨W1, e1⟩ : ∃ W1, w.alloc (.cells #[.pointer (some ⟨ma, 0, none⟩), .pointer (some ⟨mc, 0, none⟩), .slice xa xn xc, .slice ya yn yc, .bool true] 28) = W1 := ⟨_, rfl⟩
  obtain ⟨W2, e2⟩ : ∃ W2, W1.alloc (.cells #[.int .i64 10, .slice ka kl kc, .slice va vl vc, .slice ha hl hc, .bool bo, .int .i64 n] 31) = W2 := ⟨_, rfl⟩
  obtain ⟨W3, e3⟩ : ∃ W3, W2.alloc (.cells #[.pointer none, .pointer none, .slice none 0 0, .slice none 0 0, .bool false] 28) = W3 := ⟨_, rfl⟩
  obtain ⟨B3, f3⟩ : ∃ B3, w.heap.size = B3 := ⟨_, rfl⟩
  obtain ⟨B5, f5⟩ : ∃ B5, W1.heap.size = B5 := ⟨_, rfl⟩
  obtain ⟨B6, f6⟩ : ∃ B6, W2.heap.size = B6 := ⟨_, rfl⟩
  have t1 : Touch Nil w W1 := by rw [← e1]; exact (Touch.refl Nil w).alloc _
  have t2 : Touch Nil W1 W2 := by rw [← e2]; exact (Touch.refl Nil W1).alloc _
  have t3 : Touch Nil W2 W3 := by rw [← e3]; exact (Touch.refl Nil W2).alloc _
  have HTW := Lib.hid (t1.trans (t2.trans t3))
  have z1 : W1.heap[B3]? = some (.cells #[.pointer (some ⟨ma, 0, none⟩), .pointer (some ⟨mc, 0, none⟩), .slice xa xn xc, .slice ya yn yc, .bool true] 28 (0, 0)) := by rw [← e1, ← f3]; exact heap_alloc_new _ _
  have z2 : W2.heap[B5]? = some (.cells #[.int .i64 10, .slice ka kl kc, .slice va vl vc, .slice ha hl hc, .bool bo, .int .i64 n] 31 (0, 0)) := by rw [← e2, ← f5]; exact heap_alloc_new _ _
  have HB6 := Lib.hid (show W3.heap[B6]? = some (.cells #[.pointer none, .pointer none, .slice none 0 0, .slice none 0 0, .bool false] 28 (0, 0)) from by rw [← e3, ← f6]; exact heap_alloc_new _ _)
  have HB5 := Lib.hid ((t3.same B5 (lt_of_heap z2) fun c => c).trans z2)
  have HB3 := Lib.hid (((t2.trans t3).same B3 (lt_of_heap z1) fun c => c).trans z1)
  have HLT := Lib.hid (show B3 < B5 ∧ B5 < B6 ∧ N ≤ B3 ∧ ba < B3 ∧ bc < B3 ∧ ma < B3 ∧ mc < B3 from by
    have g1 := lt_of_heap h.a.body
    have g2 := lt_of_heap h.c.body
    have g3 := lt_of_heap h.a.top
    have g4 := lt_of_heap h.c.top
    have g5 := lt_of_heap z1
    have g6 := lt_of_heap z2
    omega)
  have HSEQ := Lib.hid (show B5 = w.heap.size + 1 ∧ B6 = w.heap.size + 2 from ⟨by rw [← f5, ← e1, nblk_alloc], by rw [← f6, ← e2, nblk_alloc, ← e1, nblk_alloc]⟩)
  have HBO := Lib.hid (h.keepN HTW.out)
  have HBW := Lib.hid h
  have HWZ := Lib.hid f3
  have HK := Lib.hid (And.intro (hk.keepN HTW.out) (And.intro (hv.keepN HTW.out) (hh.keepN HTW.out)))
  have HKL := Lib.hid hkl
  have HN := Lib.hid hn
  have HSZ := Lib.hid hsz
  have HXN := Lib.hid (show xn = t.size ∧ yn = u.size from ⟨by rw [size_toL]; exact h.x.len, by rw [size_toL]; exact h.y.len⟩)
  have HF := Lib.hid hf
  clear hf
  clear h hk hv hh hkl hn hsz t1 t2 t3 z1 z2 hN
  obtain ⟨a0, a1, a2, a3, a4⟩ := cells5 HB3.out
  obtain ⟨b0, b1, b2, b3, b4, b5⟩ := cells6 HB5.out
  have fz := froz HB3.out
  go_enter Try.func17, Try.ntmps17
  go_wp2_with fail
  try clear e1 e2 e3 f3 f5 f6
  have HJ := Lib.hid (joinedT_good HBO.out (by have := lt_of_heap HB6.out; have := HLT.out; omega) HSZ.out HF.out)
  clear a0 a1 a2 a3 a4 b0 b1 b2 b3 b4 b5 fz
  refine HJ.out.mono ?_
  rintro e w4 ⟨mj, bj, rj, R', va8, vl8, vc8, rfl, hmj, hma, hpl, hrow, hlm, hlb, hR', ht4⟩
  have HT4 := Lib.hid ht4
  have HMJ := Lib.hid hmj
  have HMA := Lib.hid hma
  have HPL := Lib.hid (And.intro hpl hrow)
  have HLB := Lib.hid (And.intro hlm hlb)
  have HRJ := Lib.hid hR'
  have g3 := lt_of_heap HB6.out
  have g1 := HLT.out
  have hb6 := (ht4.same B6 (lt_of_heap HB6.out) (fun hs => by rcases hs with hs | hs | hs <;> omega)).trans HB6.out
  obtain ⟨c0, c1, c2, c3, c4⟩ := cells5 hb6
  have fz6 := froz hb6
  have HB64 := Lib.hid hb6
  clear hb6 ht4 HJ hmj hma hpl hrow hlm hlb hR' g3 g1
  go_wp2_with fail
  (try simp only [Exit.inBlock, Exit.then])
  refine bodyPost_ret (ret5 rfl rfl (put5_heap HB64.out (.pointer (some ⟨mj, 0, none⟩)) (.pointer (some ⟨ma, 0, none⟩)) (.slice va8 vl8 vc8) (.slice none 0 0) (.bool true))) rfl ?_
  have htF : Touch (Just B6) w4 (put5 w4 B6 (.pointer (some ⟨mj, 0, none⟩)) (.pointer (some ⟨ma, 0, none⟩)) (.slice va8 vl8 vc8) (.slice none 0 0) (.bool true)) := put5_touch (S := Just B6) (Touch.refl _ w4) (fun _ => rfl) _ _ _ _ _
  have g3 := lt_of_heap HB6.out
  have g1 := HLT.out
  have g2 := HLB.out
  have g4 := HT4.out.size
  have g5 := htF.size
  have hp6 : Pod w4 B6 := ⟨_, _, _, _, _, _, HB64.out, ⟨_, _, _, rfl⟩, ⟨_, _, _, rfl⟩⟩
  have hto : Touch (fun b => N ≤ b ∧ b ≠ s0) w (put5 w4 B6 (.pointer (some ⟨mj, 0, none⟩)) (.pointer (some ⟨ma, 0, none⟩)) (.slice va8 vl8 vc8) (.slice none 0 0) (.bool true)) :=
    ((HTW.out.of_nil (S := fun b => N ≤ b ∧ b ≠ s0)).trans (HT4.out.mono fun b _ hs => show N ≤ b ∧ b ≠ s0 from by have := HBW.out.lo; have := HBW.out.av.1; have := HBW.out.sl; have := HWZ.out; have := HTW.out.size; rcases hs with rfl | rfl | hs <;> omega)).trans (htF.mono fun b _ hs => show N ≤ b ∧ b ≠ s0 from by have hs : b = B6 := hs; have := HBW.out.sl; have := HWZ.out; omega)
  have hra : ∀ b, R' b → b ≠ B6 ∧ b ≠ ba := fun b hb => by
    have hw := HWZ.out
    refine ⟨fun e => ?_, fun e => ?_⟩ <;> subst e
    · rcases (HRJ.out _ hb).1 with hb | hb | hb
      · have := HBW.out.lr.1 _ hb; omega
      · have := HBW.out.lr.2 _ hb; omega
      · omega
    · rcases (HRJ.out _ hb).1 with hb | hb | hb
      · exact HBO.out.a.rb hb
      · exact HBO.out.rs.1 hb
      · omega
  refine ⟨R', fun _ => False, mj, bj, ma, ba, rj, none, _, .nil, _, _, _, _, _, _, rfl, ⟨HMJ.out.keep htF (fun b hb hs => (hra b hb).1 hs) (fun hs => by have hs : mj = B6 := hs; omega) (fun hs => by have hs : bj = B6 := hs; omega), HMA.out.keep htF (fun _ c => c.elim) (fun hs => by have hs : ma = B6 := hs; omega) (fun hs => by have hs : ba = B6 := hs; omega), PL.keepAt HPL.out.1 (fun b hb e => by have := HPL.out.2 b hb; omega) hp6 htF, RL.nil, by omega, ⟨by omega, by omega⟩, ⟨fun c => c, fun c => (hra _ c).2 rfl⟩, ⟨by omega, HBW.out.lo.1⟩, ⟨fun b hb => Nat.lt_of_lt_of_le (HRJ.out b hb).2 g5, fun _ c => c.elim⟩, ⟨⟨by have := HBW.out.sl; have := HWZ.out; have := HTW.out.size; omega, by have := HBW.out.sl; have := HWZ.out; have := HTW.out.size; omega, HBW.out.av.1.1, HBW.out.av.1.2.1⟩, fun c => by
      rcases (HRJ.out _ c).1 with hb | hb | hb
      · first | exact HBW.out.av.2.1 hb | exact HBW.out.av.2.2.1 hb
      · first | exact HBW.out.av.2.2.1 hb | exact HBW.out.av.2.1 hb
      · have := HBW.out.sl; have := HWZ.out; have := HTW.out.size; omega, fun c => c, fun c => by have := HPL.out.2 _ c; have := HBW.out.sl; have := HWZ.out; have := HTW.out.size; omega, fun c => by simp [OwnOf, Value.ownBlock] at c⟩, Nat.lt_of_lt_of_le HBW.out.sl hto.size⟩, by rw [merge_size]; simp only [Tree.size]; omega, hto⟩
set_option maxRecDepth 100000 in
set_option maxHeartbeats 4000000 in
/-- Kinship is asked. -/
theorem done13_any {seed : Int} {s0 N : Nat} {R S : Nat → Prop} {w : World} {ma ba mc bc : Nat} {ra rc : Option Addr} {t u : Tree} {xa ya : Option Addr} {xn xc yn yc : Nat} (h : Bo seed s0 N R S w ma ba mc bc ra rc t u (.slice xa xn xc) (.slice ya yn yc)) (hN : N ≤ w.heap.size) {ka va ha : Option Addr} {kl kc vl vc hl hc : Nat} {key val high : Key} (hk : BV w (.slice ka kl kc) key) (hv : BV w (.slice va vl vc) val) (hh : BV w (.slice ha hl hc) high) (hkl : key.length ≤ 2000 ∧ val.length ≤ 2000 ∧ high.length ≤ 2000) (bo : Bool) (n : Int) (hn : -9223372036854775808 ≤ n ∧ n ≤ 9223372036854775807) (hsz : t.size + u.size ≤ 1000) (hsd : 0 ≤ seed ∧ seed ≤ 18446744073709551615) :
    Calls Try.prog 17 #[.agg #[.pointer (some ⟨ma, 0, none⟩), .pointer (some ⟨mc, 0, none⟩), .slice xa xn xc, .slice ya yn yc, .bool true], .int .u64 seed, .agg #[.int .i64 13, .slice ka kl kc, .slice va vl vc, .slice ha hl hc, .bool bo, .int .i64 n]] w (DoneP seed s0 N (t.size + u.size + 1) w) := by
  obtain ⟨W1, e1⟩ : ∃ W1, w.alloc (.cells #[.pointer (some ⟨ma, 0, none⟩), .pointer (some ⟨mc, 0, none⟩), .slice xa xn xc, .slice ya yn yc, .bool true] 28) = W1 := ⟨_, rfl⟩
  obtain ⟨W2, e2⟩ : ∃ W2, W1.alloc (.cells #[.int .i64 13, .slice ka kl kc, .slice va vl vc, .slice ha hl hc, .bool bo, .int .i64 n] 31) = W2 := ⟨_, rfl⟩
  obtain ⟨W3, e3⟩ : ∃ W3, W2.alloc (.cells #[.pointer none, .pointer none, .slice none 0 0, .slice none 0 0, .bool false] 28) = W3 := ⟨_, rfl⟩
  obtain ⟨B3, f3⟩ : ∃ B3, w.heap.size = B3 := ⟨_, rfl⟩
  obtain ⟨B5, f5⟩ : ∃ B5, W1.heap.size = B5 := ⟨_, rfl⟩
  obtain ⟨B6, f6⟩ : ∃ B6, W2.heap.size = B6 := ⟨_, rfl⟩
  have t1 : Touch Nil w W1 := by rw [← e1]; exact (Touch.refl Nil w).alloc _
  have t2 : Touch Nil W1 W2 := by rw [← e2]; exact (Touch.refl Nil W1).alloc _
  have t3 : Touch Nil W2 W3 := by rw [← e3]; exact (Touch.refl Nil W2).alloc _
  have HTW := Lib.hid (t1.trans (t2.trans t3))
  have z1 : W1.heap[B3]? = some (.cells #[.pointer (some ⟨ma, 0, none⟩), .pointer (some ⟨mc, 0, none⟩), .slice xa xn xc, .slice ya yn yc, .bool true] 28 (0, 0)) := by rw [← e1, ← f3]; exact heap_alloc_new _ _
  have z2 : W2.heap[B5]? = some (.cells #[.int .i64 13, .slice ka kl kc, .slice va vl vc, .slice ha hl hc, .bool bo, .int .i64 n] 31 (0, 0)) := by rw [← e2, ← f5]; exact heap_alloc_new _ _
  have HB6 := Lib.hid (show W3.heap[B6]? = some (.cells #[.pointer none, .pointer none, .slice none 0 0, .slice none 0 0, .bool false] 28 (0, 0)) from by rw [← e3, ← f6]; exact heap_alloc_new _ _)
  have HB5 := Lib.hid ((t3.same B5 (lt_of_heap z2) fun c => c).trans z2)
  have HB3 := Lib.hid (((t2.trans t3).same B3 (lt_of_heap z1) fun c => c).trans z1)
  have HLT := Lib.hid (show B3 < B5 ∧ B5 < B6 ∧ N ≤ B3 ∧ ba < B3 ∧ bc < B3 ∧ ma < B3 ∧ mc < B3 from by
    have g1 := lt_of_heap h.a.body
    have g2 := lt_of_heap h.c.body
    have g3 := lt_of_heap h.a.top
    have g4 := lt_of_heap h.c.top
    have g5 := lt_of_heap z1
    have g6 := lt_of_heap z2
    omega)
  have HSEQ := Lib.hid (show B5 = w.heap.size + 1 ∧ B6 = w.heap.size + 2 from ⟨by rw [← f5, ← e1, nblk_alloc], by rw [← f6, ← e2, nblk_alloc, ← e1, nblk_alloc]⟩)
  have HBO := Lib.hid (h.keepN HTW.out)
  have HBW := Lib.hid h
  have HWZ := Lib.hid f3
  have HK := Lib.hid (And.intro (hk.keepN HTW.out) (And.intro (hv.keepN HTW.out) (hh.keepN HTW.out)))
  have HKL := Lib.hid hkl
  have HN := Lib.hid hn
  have HSZ := Lib.hid hsz
  have HXN := Lib.hid (show xn = t.size ∧ yn = u.size from ⟨by rw [size_toL]; exact h.x.len, by rw [size_toL]; exact h.y.len⟩)
  have HSD := Lib.hid hsd
  clear hsd
  clear h hk hv hh hkl hn hsz t1 t2 t3 z1 z2 hN
  obtain ⟨a0, a1, a2, a3, a4⟩ := cells5 HB3.out
  obtain ⟨b0, b1, b2, b3, b4, b5⟩ := cells6 HB5.out
  have fz := froz HB3.out
  go_enter Try.func17, Try.ntmps17
  go_wp2_with fail
  try clear e1 e2 e3 f3 f5 f6
  obtain ⟨c0, c1, c2, c3, c4⟩ := cells5 HB6.out
  have fz6 := froz HB6.out
  have hne36 : B3 ≠ B6 := by have := HLT.out; omega
  clear b0 b1 b2 b3 b4 b5 a0 a1 a2 a3 a4 c0 c1 c2 c3 c4 fz6 fz
  have HCF := Lib.hid (fun w' (ht : Touch Nil W3 w') => show w'.cell? ⟨B3, 0, none⟩ = some (.pointer (some ⟨ma, 0, none⟩)) ∧ w'.cell? ⟨B3, 1, none⟩ = some (.pointer (some ⟨mc, 0, none⟩)) ∧ w'.cell? ⟨B3, 4, none⟩ = some (.bool true) ∧ w'.frozen? ⟨B3, 4, none⟩ = false ∧ Hid (Touch (Just B3) W3 w') from by
    have hb := (ht.same B3 (lt_of_heap HB3.out) fun c => c).trans HB3.out
    obtain ⟨a0, a1, _, _, a4⟩ := cells5 hb
    exact ⟨a0, a1, a4, froz hb 4, Lib.hid ht.of_nil⟩)
  have HCZ := Lib.hid (fun w' (ht : Touch Nil W3 w') => show (w'.setCell ⟨B3, 4, none⟩ (.bool true)).cell? ⟨B3, 0, none⟩ = some (.pointer (some ⟨ma, 0, none⟩)) ∧ (w'.setCell ⟨B3, 4, none⟩ (.bool true)).cell? ⟨B3, 1, none⟩ = some (.pointer (some ⟨mc, 0, none⟩)) ∧ (w'.setCell ⟨B3, 4, none⟩ (.bool true)).cell? ⟨B3, 4, none⟩ = some (.bool true) ∧ (w'.setCell ⟨B3, 4, none⟩ (.bool true)).frozen? ⟨B3, 4, none⟩ = false ∧ Hid (Touch (Just B3) W3 (w'.setCell ⟨B3, 4, none⟩ (.bool true))) from by
    have hb := (ht.same B3 (lt_of_heap HB3.out) fun c => c).trans HB3.out
    have hc := (set5 hb (.bool true)).2.2.2.2
    obtain ⟨a0, a1, _, _, a4⟩ := cells5 hc
    exact ⟨a0, a1, a4, froz hc 4, Lib.hid (ht.of_nil.setCell ⟨B3, 4, none⟩ _ fun _ => rfl)⟩)
  obtain ⟨s1, es1⟩ : ∃ s1, IntKind.u64.wrap (seed + 1) = s1 := ⟨_, rfl⟩
  have HQ := Lib.hid (show (seed == s1) = false from by
    rw [beq_eq_false_iff_ne]
    intro e
    rw [← es1, IntKind.wrap_u64] at e
    have := HSD.out
    omega)
  have HK1 := Lib.hid (fun w' (ht : Touch Nil W3 w') => show Calls Try.prog 45 #[.pointer (some ⟨ma, 0, none⟩), .pointer (some ⟨mc, 0, none⟩)] w' (BoolN true w') from
    (kin_maps (HBO.out.a.keepN ht) (HBO.out.c.keepN ht)).mono fun e w'' ⟨h1, k, h2⟩ => ⟨by rw [h1, beq_self_eq_true], by rw [h2]; exact (Touch.refl Nil _).drewN k⟩)
  have HK2 := Lib.hid (fun w' (ht : Touch Nil W3 w') (m2 b2 : Nat) (r2 : Option Addr) (hm : MapAt seed (fun _ => False) w' m2 b2 r2 .nil) => show Calls Try.prog 45 #[.pointer (some ⟨ma, 0, none⟩), .pointer (some ⟨m2, 0, none⟩)] w' (BoolN true w') from
    (kin_maps (HBO.out.a.keepN ht) hm).mono fun e w'' ⟨h1, k, h2⟩ => ⟨by rw [h1, beq_self_eq_true], by rw [h2]; exact (Touch.refl Nil _).drewN k⟩)
  have HK3 := Lib.hid (fun w' (ht : Touch Nil W3 w') (m2 b2 : Nat) (r2 : Option Addr) (hm : MapAt s1 (fun _ => False) w' m2 b2 r2 .nil) => show Calls Try.prog 45 #[.pointer (some ⟨ma, 0, none⟩), .pointer (some ⟨m2, 0, none⟩)] w' (BoolN false w') from
    (kin_maps (HBO.out.a.keepN ht) hm).mono fun e w'' ⟨h1, k, h2⟩ => ⟨by rw [h1, HQ.out], by rw [h2]; exact (Touch.refl Nil _).drewN k⟩)
  have HK4 := Lib.hid (fun w' (ht : Touch Nil W3 w') => show Calls Try.prog 45 #[.pointer (some ⟨ma, 0, none⟩), .pointer none] w' (BoolN false w') from
    (kin_r (.inl rfl) (HBO.out.a.keepN ht)).mono fun e w'' ⟨h1, k, h2⟩ => ⟨h1, by rw [h2]; exact (Touch.refl Nil _).drewN k⟩)
  go_region_held3 (fun w' => w'.cell? ⟨B3, 0, none⟩ = some (.pointer (some ⟨ma, 0, none⟩)) ∧ w'.cell? ⟨B3, 1, none⟩ = some (.pointer (some ⟨mc, 0, none⟩)) ∧ w'.cell? ⟨B3, 4, none⟩ = some (.bool true) ∧ w'.frozen? ⟨B3, 4, none⟩ = false ∧ Hid (Touch (Just B3) W3 w'))
    (first | (with_reducible exact HCZ.out _ hT9) | (with_reducible exact HCF.out _ (Touch.refl Nil W3).drew) | (with_reducible exact HCF.out _ hT9) | (with_reducible exact HCF.out _ hT8) | (with_reducible exact HCF.out _ hT7) | (with_reducible exact HCF.out _ hT6) | (with_reducible exact HCF.out _ hT5) | (with_reducible exact HCF.out _ hT4))
    (first
      | (go_at_call_of 45 mc; refine (HK1.out _ (Touch.refl Nil W3).drew).mono ?_; rintro e w4 ⟨rfl, h4⟩; have hT4 : Touch Nil W3 w4 := (Touch.refl Nil W3).drew.trans h4; clear h4)
      | (go_at_call_of 15 seed; refine (new_map seed w4).mono ?_; rintro e w5 ⟨m5, b5', r5, rfl, hm5, _, _, _, h5⟩; have hT5 : Touch Nil W3 w5 := hT4.trans h5; have HM5 := Lib.hid hm5; clear hm5 h5)
      | (go_at_call_of 45 m5; refine (HK2.out _ hT5 m5 b5' r5 HM5.out).mono ?_; rintro e w6 ⟨rfl, h6⟩; have hT6 : Touch Nil W3 w6 := hT5.trans h6; clear h6)
      | (go_at_call_of 15 s1; refine (new_map s1 w6).mono ?_; rintro e w7 ⟨m7, b7', r7, rfl, hm7, _, _, _, h7⟩; have hT7 : Touch Nil W3 w7 := hT6.trans h7; have HM7 := Lib.hid hm7; clear hm7 h7)
      | (go_at_call_of 45 m7; refine (HK3.out _ hT7 m7 b7' r7 HM7.out).mono ?_; rintro e w8 ⟨rfl, h8⟩; have hT8 : Touch Nil W3 w8 := hT7.trans h8; clear h8)
      | (go_at_call_of 45 (Value.pointer none); refine (HK4.out _ hT8).mono ?_; rintro e w9 ⟨rfl, h9⟩; have hT9 : Touch Nil W3 w9 := hT8.trans h9; clear h9))
  have hb3 := (hT9.same B3 (lt_of_heap HB3.out) fun c => c).trans HB3.out
  have hb6 := (hT9.same B6 (lt_of_heap HB6.out) fun c => c).trans HB6.out
  have hc3 := (set5 hb3 (.bool true)).2.2.2.2
  have hc6 := set_other5 (b := B3) (i := 4) (v := .bool true) hb6 hne36.symm
  obtain ⟨a0, a1, a2, a3, a4⟩ := cells5 hc3
  obtain ⟨c0, c1, c2, c3, c4⟩ := cells5 hc6
  have fz3 := froz hc3
  have fz6 := froz hc6
  have HC6 := Lib.hid hc6
  have HT9 := Lib.hid hT9
  obtain ⟨w10, e10⟩ : ∃ w10, w9.setCell ⟨B3, 4, none⟩ (.bool true) = w10 := ⟨_, rfl⟩
  have HT10 := Lib.hid (show Touch (Just B3) W3 w10 from by rw [← e10]; exact hT9.of_nil.setCell ⟨B3, 4, none⟩ _ fun _ => rfl)
  rw [e10] at a0 a1 a2 a3 a4 c0 c1 c2 c3 c4 fz3 fz6 HC6 ⊢
  clear hb3 hb6 hc3 hc6 e10 es1
  go_wp2_with fail
  (try simp only [Exit.inBlock, Exit.then])
  refine bodyPost_ret (ret5 rfl rfl (put5_heap HC6.out (.pointer (some ⟨ma, 0, none⟩)) (.pointer (some ⟨mc, 0, none⟩)) (.slice xa xn xc) (.slice ya yn yc) (.bool true))) rfl ?_
  have hto : Touch (From B3) w (put5 w10 B6 (.pointer (some ⟨ma, 0, none⟩)) (.pointer (some ⟨mc, 0, none⟩)) (.slice xa xn xc) (.slice ya yn yc) (.bool true)) :=
    put5_touch ((HTW.out.of_nil (S := From B3)).trans (HT10.out.mono fun b _ hs => show B3 ≤ b from by have hs : b = B3 := hs; omega)) (fun _ => show B3 ≤ B6 from by have := HLT.out; omega) _ _ _ _ _
  exact ⟨R, S, ma, ba, mc, bc, ra, rc, t, u, _, _, _, _, _, _, rfl, HBW.out.far (Nat.le_of_eq HWZ.out) hto, Nat.le_succ _, hto.mono fun b _ hs => by have hs : B3 ≤ b := hs; have := HLT.out; have := HBW.out.sl; have := HWZ.out; exact ⟨by omega, by omega⟩⟩
/-- Whatever is done. -/
theorem done_any {seed : Int} (hsd : 0 ≤ seed ∧ seed ≤ 18446744073709551615) {s0 N : Nat} {R S : Nat → Prop} {w : World} {ma ba mc bc : Nat} {ra rc : Option Addr} {t u : Tree} {xa ya : Option Addr} {xn xc yn yc : Nat} (h : Bo seed s0 N R S w ma ba mc bc ra rc t u (.slice xa xn xc) (.slice ya yn yc)) (hN : N ≤ w.heap.size) {ka va ha : Option Addr} {kl kc vl vc hl hc : Nat} {key val high : Key} (hk : BV w (.slice ka kl kc) key) (hv : BV w (.slice va vl vc) val) (hh : BV w (.slice ha hl hc) high) (hkl : key.length ≤ 2000 ∧ val.length ≤ 2000 ∧ high.length ≤ 2000) (bo : Bool) (k n : Int) (hn : -9223372036854775808 ≤ n ∧ n ≤ 9223372036854775807) (hsz : t.size + u.size ≤ 1000) :
    Calls Try.prog 17 #[.agg #[.pointer (some ⟨ma, 0, none⟩), .pointer (some ⟨mc, 0, none⟩), .slice xa xn xc, .slice ya yn yc, .bool true], .int .u64 seed, .agg #[.int .i64 k, .slice ka kl kc, .slice va vl vc, .slice ha hl hc, .bool bo, .int .i64 n]] w (DoneP seed s0 N (t.size + u.size + 1) w) := by
  by_cases h0 : k = 0
  · subst h0
    cases hq : allowB key.length val.length with
    | false => exact done0B_any h hN hk hv hh hkl bo n hn hsz hq
    | true => exact done0A_any h hN hk hv hh hkl bo n hn hsz hq
  by_cases h1 : k = 1
  · subst h1
    cases hq : hasF key t.toL with
    | false => exact done1N_any h hN hk hv hh hkl bo n hn hsz hq
    | true => exact done1Y_any h hN hk hv hh hkl bo n hn hsz hq
  by_cases h8 : k = 8
  · subst h8; exact done8_any h hN hk hv hh hkl bo n hn hsz
  by_cases h9 : k = 9
  · subst h9
    cases hq : fitsB t.toL u.toL with
    | false => exact done9N_any h hN hk hv hh hkl bo n hn hsz hq
    | true => exact done9Y_any h hN hk hv hh hkl bo n hn hsz hq
  by_cases h10 : k = 10
  · subst h10
    cases hq : fitsB u.toL t.toL with
    | false => exact done10N_any h hN hk hv hh hkl bo n hn hsz hq
    | true => exact done10Y_any h hN hk hv hh hkl bo n hn hsz hq
  by_cases h11 : k = 11
  · subst h11; exact done11_any h hN hk hv hh hkl bo n hn hsz
  by_cases h12 : k = 12
  · subst h12; exact done12_any h hN hk hv hh hkl bo n hn hsz
  by_cases h13 : k = 13
  · subst h13; exact done13_any h hN hk hv hh hkl bo n hn hsz hsd
  exact doneX_any h hN hk hv hh hkl bo n hn hsz k ⟨h0, h1, by omega⟩
end Go.Proofs.Ytkkpcndpjkebkaa
