/-
  OrderPlays: for every seed and script the law returns true: whatever is done to two maps of a seed, one thing after another, each answers as a plain list of its pairs does, and behind all of it both are whole.
  No condition beside the statement's own.
-/
import Derived.Test.YtkkpcndpjkebkaaPlayE
import Derived.Test.YtkkpcndpjkebkaaOpen
import Derived.Lib.SmallJoins
import Derived.ChangeOld
namespace Go.Proofs.Ytkkpcndpjkebkaa
open Go.ChangeShapes Go.WideShapes Go.ChangeAt Go.RowKit Go.Deep

/-- A number of 64 bits that came in. -/
theorem open_i64 {H : Type} {enc : TypeId × Value → H} {w : World} {base : Nat} {spare : Nat → Bool} {held : Bool} {fuel : Nat} {v : Value} {x : DataW H × List MemPlace}
    (h : DataW.trod enc Try.prog w base spare held fuel 3 [v] = some x) : ∃ z : Int, v = .int .i64 z ∧ -9223372036854775808 ≤ z ∧ z ≤ 9223372036854775807 := by
  obtain ⟨z, e1, _, hw⟩ := DataW.trod_int Try.underlying3 h
  have hb : -9223372036854775808 ≤ z ∧ z ≤ 9223372036854775807 := by simpa [Lit.wf, IntKind.min, IntKind.max, IntKind.signed, IntKind.bits] using hw
  exact ⟨z, by simpa using e1, hb⟩
/-- What lies in a script. -/
structure OpC where
  k : Int
  key : Key
  val : Key
  high : Key
  bo : Bool
  n : Int
instance : Inhabited OpC := ⟨⟨0, [], [], [], false, 0⟩⟩
theorem open_ops {H : Type} {enc : TypeId × Value → H} {w : World} {base : Nat} {spare : Nat → Bool} {held : Bool} {fuel : Nat} {ao : Option Addr} {len cap : Nat} {x : DataW H × List MemPlace}
    (h : DataW.trod enc Try.prog w base spare held fuel 23 [.slice ao len cap] = some x) : len ≤ maxLen ∧ ∃ v, Items w ao len 6 v ∧ ∃ o : Nat → OpC, ∀ i, i < len → v i 0 = .int .i64 (o i).k ∧ (BV w (v i 1) (o i).key ∧ (o i).key.length ≤ maxLen) ∧ (BV w (v i 2) (o i).val ∧ (o i).val.length ≤ maxLen) ∧ (BV w (v i 3) (o i).high ∧ (o i).high.length ≤ maxLen) ∧ v i 4 = .bool (o i).bo ∧ v i 5 = .int .i64 (o i).n ∧ -9223372036854775808 ≤ (o i).n ∧ (o i).n ≤ 9223372036854775807 := by
  obtain ⟨h1, h2, v, hcell, hf⟩ := open_structs Try.underlying23 Try.underlying31 (by kernel_rfl) (by kernel_rfl) (by decide) h
  obtain ⟨o, ho⟩ := choose_lt (α := OpC) (n := len) (p := fun i o => v i 0 = .int .i64 o.k ∧ (BV w (v i 1) o.key ∧ o.key.length ≤ maxLen) ∧ (BV w (v i 2) o.val ∧ o.val.length ≤ maxLen) ∧ (BV w (v i 3) o.high ∧ o.high.length ≤ maxLen) ∧ v i 4 = .bool o.bo ∧ v i 5 = .int .i64 o.n ∧ -9223372036854775808 ≤ o.n ∧ o.n ≤ 9223372036854775807) fun i hi => by
    obtain ⟨_, _, e0⟩ := hf i hi 0 _ rfl
    obtain ⟨_, _, e1⟩ := hf i hi 1 _ rfl
    obtain ⟨_, _, e2⟩ := hf i hi 2 _ rfl
    obtain ⟨_, _, e3⟩ := hf i hi 3 _ rfl
    obtain ⟨_, _, e4⟩ := hf i hi 4 _ rfl
    obtain ⟨_, _, e5⟩ := hf i hi 5 _ rfl
    obtain ⟨z0, g0, _, _⟩ := open_i64 e0
    obtain ⟨k1, g1⟩ := open_bv Try.underlying29 Try.underlying5 (by kernel_rfl) e1
    obtain ⟨k2, g2⟩ := open_bv Try.underlying29 Try.underlying5 (by kernel_rfl) e2
    obtain ⟨k3, g3⟩ := open_bv Try.underlying29 Try.underlying5 (by kernel_rfl) e3
    obtain ⟨b4, g4, _⟩ := DataW.trod_bool Try.underlying4 e4
    obtain ⟨z5, g5, h5, h6⟩ := open_i64 e5
    exact ⟨⟨z0, k1, k2, k3, b4, z5⟩, g0, g1, g2, g3, by simpa using g4, g5, h5, h6⟩
  exact ⟨by omega, v, hcell, o, ho⟩
theorem nodes_in (seed : Int) : ∀ (t : Tree) (b : Nat) (q : NodeC), q ∈ nodesT seed b t → (q.k, q.u) ∈ t.toL
  | .nil, _, _, h => by simp [nodesT] at h
  | .node l k u r, b, q, h => by
    simp only [nodesT, List.mem_cons, List.mem_append] at h
    rw [Tree.toL, List.mem_append, List.mem_cons]
    rcases h with c | c | c
    · rw [c]; exact .inr (.inl rfl)
    · exact .inl (nodes_in seed l _ q c)
    · exact .inr (.inr (nodes_in seed r _ q c))
/-- A block that is none of theirs is written. -/
theorem Bo.putS {seed : Int} {s0 N : Nat} {R S : Nat → Prop} {w w' : World} {ma ba mc bc : Nat} {ra rc : Option Addr} {t u : Tree} {x y : Value} (h : Bo seed s0 N R S w ma ba mc bc ra rc t u x y) (hp : Pod w s0) (ht : Touch (Just s0) w w') : Bo seed s0 N R S w' ma ba mc bc ra rc t u x y :=
  ⟨h.a.keep ht (fun b hb hs => by have hs : b = s0 := hs; subst hs; exact h.av.2.1 hb) (fun hs => h.av.1.1 (Eq.symm hs)) (fun hs => h.av.1.2.1 (Eq.symm hs)),
    h.c.keep ht (fun b hb hs => by have hs : b = s0 := hs; subst hs; exact h.av.2.2.1 hb) (fun hs => h.av.1.2.2.1 (Eq.symm hs)) (fun hs => h.av.1.2.2.2 (Eq.symm hs)),
    PL.keepAt h.x (fun b hb e => by subst e; exact h.av.2.2.2.1 hb) hp ht, PL.keepAt h.y (fun b hb e => by subst e; exact h.av.2.2.2.2 hb) hp ht,
    h.ne, h.mx, h.rs, h.lo, ⟨fun b hb => Nat.lt_of_lt_of_le (h.lr.1 b hb) ht.size, fun b hb => Nat.lt_of_lt_of_le (h.lr.2 b hb) ht.size⟩, h.av, Nat.lt_of_lt_of_le h.sl ht.size⟩
/-- The two, and the block in which they stand. -/
def PlS (seed : Int) (s0 y : Nat) (w wr : World) : Prop :=
  ∃ R S ma ba mc bc ra rc t u xa xn xc ya yn yc, Bo seed s0 w.heap.size R S wr ma ba mc bc ra rc t u (.slice xa xn xc) (.slice ya yn yc) ∧ t.size + u.size ≤ y ∧ wr.heap[s0]? = some (.cells #[.pointer (some ⟨ma, 0, none⟩), .pointer (some ⟨mc, 0, none⟩), .slice xa xn xc, .slice ya yn yc, .bool true] 28 (0, 0)) ∧ Touch Nil w wr
theorem plS_start {seed : Int} {w w1 w2 w3 : World} {m1 b1 m2 b2 s0 : Nat} {r1 r2 : Option Addr} (h1 : MapAt seed (fun _ => False) w1 m1 b1 r1 .nil ∧ w.heap.size ≤ m1 ∧ w.heap.size ≤ b1 ∧ m1 ≠ b1) (t1 : Touch Nil w w1) (h2 : MapAt seed (fun _ => False) w2 m2 b2 r2 .nil ∧ w1.heap.size ≤ m2 ∧ w1.heap.size ≤ b2 ∧ m2 ≠ b2) (t2 : Touch Nil w1 w2) (t3 : Touch Nil w2 w3) (hs : w2.heap.size = s0)
    (h3 : w3.heap[s0]? = some (.cells #[.pointer (some ⟨m1, 0, none⟩), .pointer (some ⟨m2, 0, none⟩), .slice none 0 0, .slice none 0 0, .bool true] 28 (0, 0))) : PlS seed s0 0 w w3 := by
  have l1 := lt_of_heap h1.1.top
  have l2 := lt_of_heap h1.1.body
  have l3 := lt_of_heap h2.1.top
  have l4 := lt_of_heap h2.1.body
  have s1 := t1.size
  have s2 := t2.size
  have l5 := lt_of_heap h3
  exact ⟨_, _, m1, b1, m2, b2, r1, r2, .nil, .nil, _, _, _, _, _, _, ⟨h1.1.keepN (t2.trans t3), h2.1.keepN t3, RL.nil, RL.nil, by omega, ⟨by omega, by omega⟩, ⟨fun c => c, fun c => c⟩, ⟨h1.2.2.1, by omega⟩, ⟨fun _ c => c.elim, fun _ c => c.elim⟩, ⟨⟨by omega, by omega, by omega, by omega⟩, fun c => c, fun c => c, fun c => by simp [OwnOf, Value.ownBlock] at c, fun c => by simp [OwnOf, Value.ownBlock] at c⟩, l5⟩, by simp [Tree.size], h3, (t1.trans t2).trans t3⟩
set_option maxRecDepth 100000 in
set_option maxHeartbeats 8000000 in
theorem lawPlays_any {seed : Int} (hsd : 0 ≤ seed ∧ seed ≤ 18446744073709551615) {w : World} {ao : Option Addr} {n cap : Nat} {v : Nat → Nat → Value} {o : Nat → OpC} (hit : Items w ao n 6 v) (hn : n ≤ maxLen)
    (ho : ∀ i, i < n → v i 0 = .int .i64 (o i).k ∧ (BV w (v i 1) (o i).key ∧ (o i).key.length ≤ maxLen) ∧ (BV w (v i 2) (o i).val ∧ (o i).val.length ≤ maxLen) ∧ (BV w (v i 3) (o i).high ∧ (o i).high.length ≤ maxLen) ∧ v i 4 = .bool (o i).bo ∧ v i 5 = .int .i64 (o i).n ∧ -9223372036854775808 ≤ (o i).n ∧ (o i).n ≤ 9223372036854775807) :
    Calls Try.prog 3 #[.int .u64 seed, .slice ao n cap] w fun e w' => e = .returned (.bool true) ∧ Below w.heap.size w w' := by
  have HIT := Lib.hid hit
  have HO := Lib.hid ho
  have HSD := Lib.hid hsd
  clear hit ho hsd
  unfold maxLen at hn
  go_enter Try.func3, Try.ntmps3
  by_cases hfew : 150 < n
  · have i1 : (150 : Int) < (n : Int) := by omega
    go_wp2_with fail
    go_ret
    exact ⟨rfl, Below.refl _ _⟩
  have i1 : ¬ (150 : Int) < (n : Int) := by omega
  go_wp2_with fail
  refine (new_map seed w).mono ?_
  rintro e w1 ⟨m1, b1, r1, rfl, hm1, hm1', hb1', hne1, ht1⟩
  have HM1 := Lib.hid (And.intro hm1 (And.intro hm1' (And.intro hb1' hne1)))
  have HT1 := Lib.hid ht1
  clear hm1 hm1' hb1' hne1 ht1
  go_wp2_with fail
  refine (new_map seed w1).mono ?_
  rintro e w2 ⟨m2, b2, r2, rfl, hm2, hm2', hb2', hne2, ht2⟩
  have HM2 := Lib.hid (And.intro hm2 (And.intro hm2' (And.intro hb2' hne2)))
  have HT2 := Lib.hid ht2
  clear hm2 hm2' hb2' hne2 ht2
  obtain ⟨w3, e3⟩ : ∃ w3, w2.alloc (.cells #[.pointer (some ⟨m1, 0, none⟩), .pointer (some ⟨m2, 0, none⟩), .slice none 0 0, .slice none 0 0, .bool true] 28) = w3 := ⟨_, rfl⟩
  obtain ⟨z0, ez0⟩ : ∃ z0, w2.heap.size = z0 := ⟨_, rfl⟩
  have h3 : w3.heap[z0]? = some (.cells #[.pointer (some ⟨m1, 0, none⟩), .pointer (some ⟨m2, 0, none⟩), .slice none 0 0, .slice none 0 0, .bool true] 28 (0, 0)) := by rw [← e3, ← ez0]; exact heap_alloc_new _ _
  have HST := Lib.hid (show PlS seed z0 0 w w3 from plS_start HM1.out HT1.out HM2.out HT2.out (by rw [← e3]; exact (Touch.refl Nil w2).alloc _) ez0 h3)
  have HZ0 := Lib.hid (show w.heap.size ≤ z0 from by have := HT1.out.size; have := HT2.out.size; omega)
  obtain ⟨f0, f1, f2, f3, f4⟩ := cells5 h3
  go_wp2_with fail
  clear h3 f0 f1 f2 f3 f4 e3 ez0
  clear HM1 HT1 HM2 HT2
  go_loopw [6] (fun i wr => ∃ y : Nat, y ≤ n ∧ i = .int .i64 (y : Int) ∧ Hid (PlS seed z0 y w wr)) (fun i _ => n - (intOf i).toNat)
  case atStart => exact ⟨0, Nat.zero_le _, rfl, HST⟩
  obtain ⟨y, hy, rfl, HP⟩ := hrel
  obtain ⟨R, S, ma, ba, mc, bc, ra, rc, t, u, xa, xn, xc, ya, yn, yc, hbo, hsz, hs0, hto⟩ := HP.out
  have HBO := Lib.hid hbo
  have HSZ := Lib.hid hsz
  have HS0 := Lib.hid hs0
  have HTO := Lib.hid hto
  obtain ⟨p0, p1, p2, p3, p4⟩ := cells5 hs0
  clear hbo hsz hs0 hto HP
  by_cases hlt : y < n
  · obtain ⟨b, off, rfl, hb, hc⟩ := HIT.out (by omega)
    obtain ⟨g0, ⟨hk, lk⟩, ⟨hv, lv⟩, ⟨hh, lh⟩, g4, g5, hn1, hn2⟩ := HO.out y hlt
    have hcw : ∀ c, c < 6 → wr.cell? ⟨b, off + y * 6 + c, none⟩ = some (v y c) := fun c hcc => (HTO.out.cell hb (fun c => c) _).trans (hc y hlt c hcc)
    have c0 := hcw 0 (by omega)
    have c1 := hcw 1 (by omega)
    have c2 := hcw 2 (by omega)
    have c3 := hcw 3 (by omega)
    have c4 := hcw 4 (by omega)
    have c5 := hcw 5 (by omega)
    rw [Nat.add_zero] at c0
    have HK := Lib.hid (hk.keepN HTO.out)
    have HV := Lib.hid (hv.keepN HTO.out)
    have HH := Lib.hid (hh.keepN HTO.out)
    obtain ⟨ka, kc, ek⟩ := hk.len'
    obtain ⟨va, vc, ev⟩ := hv.len'
    obtain ⟨ha, hc', eh⟩ := hh.len'
    rw [g0] at c0
    rw [ek] at c1 HK
    rw [ev] at c2 HV
    rw [eh] at c3 HH
    rw [g4] at c4
    rw [g5] at c5
    have HN := Lib.hid (And.intro hn1 hn2)
    obtain ⟨key, ekey⟩ : ∃ q, (o y).key = q := ⟨_, rfl⟩
    obtain ⟨val, evl⟩ : ∃ q, (o y).val = q := ⟨_, rfl⟩
    obtain ⟨high, ehg⟩ : ∃ q, (o y).high = q := ⟨_, rfl⟩
    obtain ⟨ok, eok⟩ : ∃ q, (o y).k = q := ⟨_, rfl⟩
    obtain ⟨ob, eob⟩ : ∃ q, (o y).bo = q := ⟨_, rfl⟩
    obtain ⟨on, eon⟩ : ∃ q, (o y).n = q := ⟨_, rfl⟩
    rw [ekey] at c1 HK lk
    rw [evl] at c2 HV lv
    rw [ehg] at c3 HH lh
    rw [eok] at c0
    rw [eob] at c4
    rw [eon] at c5 HN
    have i1 : (y : Int) < (n : Int) := by omega
    have i2 : (0 : Int) ≤ (y : Int) := by omega
    clear hc hcw hk hv hh g0 g4 g5 hn1 hn2 ek ev eh ekey evl ehg eok eob eon lk lv lh
    obtain ⟨W1, e1⟩ : ∃ W1, wr.alloc (.cells #[.int .i64 ok, .slice ka key.length kc, .slice va val.length vc, .slice ha high.length hc', .bool ob, .int .i64 on] 31) = W1 := ⟨_, rfl⟩
    obtain ⟨G, eG⟩ : ∃ G, wr.heap.size = G := ⟨_, rfl⟩
    have h6 : W1.heap[G]? = some (.cells #[.int .i64 ok, .slice ka key.length kc, .slice va val.length vc, .slice ha high.length hc', .bool ob, .int .i64 on] 31 (0, 0)) := by rw [← e1, ← eG]; exact heap_alloc_new _ _
    obtain ⟨o0, o1, o2, o3, o4, o5⟩ := cells6 h6
    have HT1 := Lib.hid (show Touch Nil wr W1 from by rw [← e1]; exact (Touch.refl Nil wr).alloc _)
    have HS1 := Lib.hid ((HT1.out.same z0 (lt_of_heap HS0.out) fun c => c).trans HS0.out)
    obtain ⟨s0', s1', s2', s3', s4'⟩ := cells5 HS1.out
    have fzs := froz HS1.out
    clear h6
    have HL1 := Lib.hid (fun w' => long_any ka key.length kc w')
    have HL2 := Lib.hid (fun w' => long_any va val.length vc w')
    have HL3 := Lib.hid (fun w' => long_any ha high.length hc' w')
    by_cases l1 : 2000 < key.length
    · rw [decide_eq_true l1] at HL1
      go_wp2_with fail
      refine (HL1.out _).mono ?_
      rintro e w' ⟨rfl, rfl⟩
      go_wp2_with fail
      go_ret
      exact ⟨rfl, (HTO.out.trans HT1.out).below_nil⟩
    rw [decide_eq_false l1] at HL1
    by_cases l2 : 2000 < val.length
    · rw [decide_eq_true l2] at HL2
      go_wp2_with fail
      refine (HL1.out _).mono ?_
      rintro e w' ⟨rfl, rfl⟩
      go_wp2_with fail
      refine (HL2.out _).mono ?_
      rintro e w' ⟨rfl, rfl⟩
      go_wp2_with fail
      go_ret
      exact ⟨rfl, (HTO.out.trans HT1.out).below_nil⟩
    rw [decide_eq_false l2] at HL2
    by_cases l3 : 2000 < high.length
    · rw [decide_eq_true l3] at HL3
      go_wp2_with fail
      refine (HL1.out _).mono ?_
      rintro e w' ⟨rfl, rfl⟩
      go_wp2_with fail
      refine (HL2.out _).mono ?_
      rintro e w' ⟨rfl, rfl⟩
      go_wp2_with fail
      refine (HL3.out _).mono ?_
      rintro e w' ⟨rfl, rfl⟩
      go_wp2_with fail
      go_ret
      exact ⟨rfl, (HTO.out.trans HT1.out).below_nil⟩
    rw [decide_eq_false l3] at HL3
    have HDN := Lib.hid (done_any HSD.out (HBO.out.keepN HT1.out) (Nat.le_trans HTO.out.size HT1.out.size) (HK.out.keepN HT1.out) (HV.out.keepN HT1.out) (HH.out.keepN HT1.out) ⟨by omega, by omega, by omega⟩ ob ok on HN.out (by have := HSZ.out; omega))
    go_wp2_with fail
    refine (HL1.out _).mono ?_
    rintro e w' ⟨rfl, rfl⟩
    go_wp2_with fail
    refine (HL2.out _).mono ?_
    rintro e w' ⟨rfl, rfl⟩
    go_wp2_with fail
    refine (HL3.out _).mono ?_
    rintro e w' ⟨rfl, rfl⟩
    clear HL1 HL2 HL3
    go_wp2_with fail
    refine HDN.out.mono ?_
    rintro e w4 ⟨R4, S4, ma4, ba4, mc4, bc4, ra4, rc4, t4, u4, xa4, xn4, xc4, ya4, yn4, yc4, rfl, hbo4, hsz4, ht4⟩
    have h04 := (ht4.same z0 (lt_of_heap HS1.out) (fun c => c.2 rfl)).trans HS1.out
    have HB5 := Lib.hid (show PlS seed z0 (y + 1) w (put5 w4 z0 (.pointer (some ⟨ma4, 0, none⟩)) (.pointer (some ⟨mc4, 0, none⟩)) (.slice xa4 xn4 xc4) (.slice ya4 yn4 yc4) (.bool true)) from by
      have htp : Touch (Just z0) w4 (put5 w4 z0 (.pointer (some ⟨ma4, 0, none⟩)) (.pointer (some ⟨mc4, 0, none⟩)) (.slice xa4 xn4 xc4) (.slice ya4 yn4 yc4) (.bool true)) := put5_touch (S := Just z0) (Touch.refl _ w4) (fun _ => rfl) _ _ _ _ _
      have h0 := HZ0.out
      exact ⟨R4, S4, ma4, ba4, mc4, bc4, ra4, rc4, t4, u4, _, _, _, _, _, _, hbo4.putS ⟨_, _, _, _, _, _, h04, ⟨_, _, _, rfl⟩, ⟨_, _, _, rfl⟩⟩ htp, by have := HSZ.out; omega, put5_heap h04 _ _ _ _ _, ((HTO.out.trans HT1.out).trans' ht4 fun b hb hs => by have := hs.1; omega).trans' htp fun b hb hs => by have hs : b = z0 := hs; omega⟩)
    have fz4 := froz h04
    obtain ⟨q0, q1, q2, q3, q4⟩ := cells5 h04
    clear hbo4 hsz4 ht4 HDN h04
    go_wp2_with fail
    go_roundw
    case rel => exact ⟨y + 1, by omega, by go_num, HB5⟩
    case measure => simp [intOf]; omega
  · obtain rfl : y = n := by omega
    have i1 : ¬ (y : Int) < (y : Int) := by omega
    have HW1 := Lib.hid (fun w' (ht : Touch Nil wr w') => whole_map (HBO.out.a.keepN ht) (HBO.out.x.keepN ht))
    have HW2 := Lib.hid (fun w' (ht : Touch Nil wr w') => whole_map (HBO.out.c.keepN ht) (HBO.out.y.keepN ht))
    have HOK := Lib.hid (treeAt_ok HBO.out.a.tree)
    have HNP := Lib.hid (fun w' (ht : Touch Nil wr w') => nodes_map (HBO.out.a.keepN ht))
    have HNR := Lib.hid (fun w' (ht : Touch Nil wr w') => nodesR_any (seed := seed) HBO.out.a.srt HBO.out.a.heap HOK.out (HBO.out.x.keepN ht) (by have := HSZ.out; omega))
    have HCF := Lib.hid (fun w' (ht : Touch Nil wr w') => show w'.cell? ⟨z0, 0, none⟩ = some (.pointer (some ⟨ma, 0, none⟩)) ∧ w'.cell? ⟨z0, 1, none⟩ = some (.pointer (some ⟨mc, 0, none⟩)) ∧ w'.cell? ⟨z0, 2, none⟩ = some (.slice xa xn xc) ∧ w'.cell? ⟨z0, 3, none⟩ = some (.slice ya yn yc) ∧ Hid (Touch Nil wr w') from by
      obtain ⟨a0, a1, a2, a3, _⟩ := cells5 ((ht.same z0 (lt_of_heap HS0.out) fun c => c).trans HS0.out)
      exact ⟨a0, a1, a2, a3, Lib.hid ht⟩)
    go_wp2_with fail
    go_region_held3 (fun w' => w'.cell? ⟨z0, 0, none⟩ = some (.pointer (some ⟨ma, 0, none⟩)) ∧ w'.cell? ⟨z0, 1, none⟩ = some (.pointer (some ⟨mc, 0, none⟩)) ∧ w'.cell? ⟨z0, 2, none⟩ = some (.slice xa xn xc) ∧ w'.cell? ⟨z0, 3, none⟩ = some (.slice ya yn yc) ∧ Hid (Touch Nil wr w'))
      (first | (with_reducible exact HCF.out _ (Touch.refl Nil wr).drew) | (with_reducible exact HCF.out _ hT8) | (with_reducible exact HCF.out _ hT7) | (with_reducible exact HCF.out _ hT6) | (with_reducible exact HCF.out _ hT5) | (with_reducible exact HCF.out _ hT4))
      (first
        | (go_at_call_of 18 ma; refine (HW1.out _ (Touch.refl Nil wr).drew).mono ?_; rintro e w4 ⟨rfl, h4⟩; have hT4 : Touch Nil wr w4 := (Touch.refl Nil wr).drew.trans h4; clear h4)
        | (go_at_call_of 18 mc; refine (HW2.out _ hT4).mono ?_; rintro e w5 ⟨rfl, h5⟩; have hT5 : Touch Nil wr w5 := hT4.trans h5; clear h5)
        | (go_at_call_of 20 ma; refine (HNP.out _ hT5).mono ?_; rintro e w6 ⟨n6, rfl, hn6, h6⟩; have hr6 := hn6.rl; obtain ⟨na6, nl6, nc6, rfl⟩ := hr6.form3; have hT6 : Touch Nil wr w6 := hT5.trans h6; have HN6 := Lib.hid hr6; clear hn6 hr6 h6)
        | (go_at_call_of 21 seed; refine (HNR.out _ hT6).mono ?_; rintro e w7 ⟨n7, rfl, hn7, h7⟩; have hr7 := hn7.rl; obtain ⟨na7, nl7, nc7, rfl⟩ := hr7.form3; have hT7 : Touch Nil wr w7 := hT6.trans h7; have HN7 := Lib.hid hr7; have HN67 := Lib.hid (HN6.out.keepN h7); clear hn7 hr7 h7)
        | (go_at_call_of 19 na7; refine (sameNodes_any HN67.out HN7.out (fun q hq => by have h : okK q.k q.u := HOK.out _ (nodes_in seed t 0 q hq); unfold okK at h; omega) (by rw [nodesT_len]; have := HSZ.out; omega)).mono ?_; rintro e w8 ⟨rfl, h8⟩; have hT8 : Touch Nil wr w8 := hT7.trans h8; clear h8))
    go_wp2_with fail
    go_ret
    exact ⟨rfl, (HTO.out.trans hT8).below_nil⟩
set_option maxRecDepth 100000 in
theorem orderPlays_lifted (os : Os) (started : os.Started) (H : Type) (enc : TypeId × Value → H) :
    ReturnsInHanded {} Try.checked os 3 .any (Rows.orderPlaysSpec.pre6 enc Try.prog Try.f3 Rows.orderPlaysRow.domain false) (Rows.orderPlaysSpec.post enc Try.prog Try.f3 false true false false) := by
  refine returnsInHanded_of_change (C := Try.checked) own started (by kernel_rfl) Try.func3
    (ChangeSpec.witness6 (enc := enc) (C := Try.checked) false ⟨#[], #[.int .u64 0, .slice none 0 0], []⟩ 8 (by kernel_rfl) (by kernel_rfl) (by kernel_rfl) (by kernel_rfl)) ?_
  intro W base args ds gs before hval0 hW _ _
  have hval : ∀ (j : Nat) t v, Try.f3.params[j]? = some t → args[j]? = some v → Value.okWide Try.prog W .any base t v := hval0
  have hW' := hW
  obtain ⟨p, q, hA0, hV, rfl, hfz, hnd⟩ := hW
  have hA : DataW.TrodAll enc Try.prog W 0 (fun _ => true) true Try.f3.params.toList args.toList ds p := hA0
  rw [Try.params3] at hA hval
  obtain ⟨v0, vs0, d0, ds0, p0, q0, hargs, rfl, rfl, h0, r0⟩ := trodAll_cons hA
  obtain ⟨v1, vs1, d1, ds1, p1, q1, rfl, rfl, rfl, h1, r1⟩ := trodAll_cons r0
  obtain ⟨rfl, rfl, rfl⟩ := trodAll_nil r1
  obtain rfl : args = #[v0, v1] := by cases args; simp_all
  obtain ⟨rfl, rfl⟩ := trodVars_none hV
  obtain ⟨seed, rfl, rfl, rfl, w0⟩ := open_int Try.underlying22 (hval 0 22 v0 rfl rfl) h0
  have b0 : 0 ≤ seed ∧ seed ≤ 18446744073709551615 := by simpa [Lit.wf, IntKind.min, IntKind.max, IntKind.signed, IntKind.bits] using w0
  obtain ⟨ao, len, cap, rfl⟩ := okWide_slice Try.underlying23 (hval 1 23 v1 rfl rfl)
  have k1 := h1
  have lt1 : ∀ x ∈ p1, x.block < W.heap.size := by obtain ⟨m, hm⟩ := k1; exact DataW.trod_lt m _ _ _ hm
  obtain ⟨fuel, hf⟩ := h1
  obtain ⟨hm, v, hit, o, ho⟩ := open_ops hf
  clear hA0 hval0
  refine (lawPlays_any b0 hit hm ho).mono fun e W' ⟨he, bel⟩ => ?_
  subst he
  exact ⟨_, rfl, _, _, _, [], _, [], hW', trodAll_mk1 (shut_bool Try.underlying4 _), (trodAll_cons_mk (shut_int Try.underlying22 w0) (trodAll_cons_mk (Below.trod laidOut (by kernel_rfl) (of_decide_eq_true (by kernel_rfl)) k1 bel lt1) trodAll_mk0)), rfl, bel.frame _, fun h => by cases h⟩

theorem orderPlays_holds : Rows.OrderPlaysSaid :=
  OpenClaim.holds_of_wide 3 Try.f3 rfl rfl rfl rfl rfl rfl rfl ⟨rfl, rfl, rfl, rfl, rfl⟩ rfl rfl rfl rfl rfl (by kernel_rfl) Try.func3 (by kernel_rfl)
    (of_decide_eq_true (by kernel_rfl)) (by unfold Func.isWrapper; first | (rw [if_pos (by decide +kernel)]; kernel_rfl) | (rw [if_neg (by decide +kernel)]; exact ⟨rfl, rfl⟩))
    (fun os started H enc _ => orderPlays_lifted os started H enc)
end Go.Proofs.Ytkkpcndpjkebkaa
