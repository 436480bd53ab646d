import Derived.Test.YtkkpcndpjkebkaaNodesG
/- The image of a map, as the program makes it. -/
namespace Go.Proofs.Ytkkpcndpjkebkaa
open Go.ChangeShapes Go.WideShapes Go.ChangeAt Go.RowKit Go.Deep

/-- Which children a node has. -/
def childN (l r : Tree) : Nat := (match l with | .nil => 0 | .node _ _ _ _ => 1) + (match r with | .nil => 0 | .node _ _ _ _ => 2)
theorem childN_le (l r : Tree) : childN l r ≤ 3 := by cases l <;> cases r <;> simp [childN]
/-- The bytes of a pair. -/
def toldK (k u : Key) : List UInt8 := [lo k.length] ++ leB u.length 2 ++ k ++ u
theorem toldK_len (k u : Key) : (toldK k u).length = 3 + k.length + u.length := by simp [toldK, leB_len]; omega
/-- The bytes of a tree's nodes, each ahead of those below it. -/
def imgT : Tree → List UInt8
  | .nil => []
  | .node l k u r => (lo (childN l r) :: toldK k u) ++ (imgT l ++ imgT r)
/-- The bytes of a map. -/
def imgB (t : Tree) : List UInt8 := leB t.size 4 ++ imgT t

/-- Allowed lengths in a tree. -/
def OkL' : Tree → Prop
  | .nil => True
  | .node l k u r => okK k u ∧ OkL' l ∧ OkL' r
theorem treeAt_okT {seed : Int} {R : Nat → Prop} {w : World} : ∀ {t : Tree} {v : Value}, TreeAt seed R w t v → OkL' t
  | .nil, _, _ => trivial
  | .node _ _ _ _, _, ⟨_, _, _, _, _, _, _, hi, hl, hr⟩ => ⟨by obtain ⟨_, _, _, _, _, _, _, _, h⟩ := hi; exact h, treeAt_okT hl, treeAt_okT hr⟩

/-- append of bytes, as one step of a region that draws its order. -/
theorem step_append_bytes {w : World} {ops : Array Oper} {o : Oper} {a : Act} {K : Act → World → Prop} {Q : Exit → Act → World → Prop} {E : Prop} (hgd : o.guard = none) (s x : Operand)
    (ho : o.op = .call { callee := .builtin .append, args := #[s, x], argTypes := #[29, 29] })
    (base : Nat) (v xv : Value) (l m : List UInt8) (hs : a.eval s = v) (hown : OwnB base w v l) (hx : a.eval x = xv) (hbv : BV w xv m) (hm : m ≠ [])
    (hlen : l.length + m.length ≤ 1073741824) (hbase : base ≤ w.heap.size)
    (h : ∀ v' w', Hid (OwnB base w' v' (l ++ m)) → Hid (Touch (OwnOf v) w w') → K (a.put o.dst v') w') :
    if Region.wanted o (yielded ops a.tmps) = true then Oper.wp Try.prog o a w K Q else E := by
  obtain ⟨i0, hi, hz0, hz1, hz2⟩ := info_parts infoByte
  have hw : Region.wanted o (yielded ops a.tmps) = true := by simp [Region.wanted, hgd]
  rw [if_pos hw]
  obtain ⟨ao, cap, rfl, hnone, hsl⟩ := hbv
  cases ao with
  | none =>
    have h0 := (hnone rfl).1
    first
      | exact absurd h0 hm
      | exact absurd (List.length_eq_zero_iff.1 h0) hm
  | some ad =>
    refine wp_append_own w s x 29 ho base 5 i0 (.int .u8 0) 1 1 Try.underlying29 hi hz0 hz1 hz2 rfl (by decide) v l.length _ hs hown ad m.length cap ((ub m).map (Value.int .u8)) hx (by simp) ?_ ?_ (by unfold maxLen; omega) (by omega) hbase ?_
    · intro j u hj
      by_cases hjm : j < m.length
      · obtain ⟨b, off, e, hc⟩ := hsl j (by simpa using hjm)
        cases e
        rw [add_plain, hc]
        rw [List.getElem?_map, List.getElem?_eq_getElem (by simpa using hjm)] at hj
        simp [List.getD_eq_getElem?_getD, hjm] at hj ⊢
        exact hj
      · simp [hjm] at hj
    · intro u hu
      obtain ⟨n, _, rfl⟩ := List.mem_map.1 hu
      rfl
    · intro v' w' hown' hgrow _
      refine h v' w' (show _ from ?_) (show _ from touch_grown hgrow)
      show w'.ownsRow base 5 1 v' (l ++ m).length ((ub (l ++ m)).map (Value.int .u8))
      have : (ub (l ++ m)).map (Value.int .u8) = (ub l).map (Value.int .u8) ++ (ub m).map (Value.int .u8) := by simp [ub]
      rw [this, List.length_append]
      exact hown'

set_option maxHeartbeats 2000000 in
theorem children_any {seed : Int} {R : Nat → Prop} {w : World} {b : Nat} {iv : Value} {la ra : Option Addr} {l r : Tree} {k u : Key} (hn : NodeV seed R w b iv la ra l k u r) :
    Calls Try.prog 78 #[.pointer (some ⟨b, 0, none⟩)] w fun e w' => e = .returned (.int .u8 ((childN l r : Nat) : Int)) ∧ w = w' := by
  obtain ⟨_, _, _, x3, x4⟩ := node_cells hn.blk
  cases l with
  | nil =>
    obtain rfl : la = none := by have h : Value.pointer la = .pointer none := hn.left; injection h
    cases r with
    | nil =>
      obtain rfl : ra = none := by have h : Value.pointer ra = .pointer none := hn.right; injection h
      clear hn
      go_enter Try.func78, Try.ntmps78
      go_wp2_with fail
      go_ret
      exact ⟨rfl, rfl⟩
    | node l2 k2 u2 r2 =>
      obtain ⟨b2, _, _, _, e2, _⟩ := hn.right.node
      injection e2 with e2
      subst e2
      clear hn
      go_enter Try.func78, Try.ntmps78
      go_wp2_with fail
      go_ret
      exact ⟨rfl, rfl⟩
  | node l1 k1 u1 r1 =>
    obtain ⟨b1, _, _, _, e1, _⟩ := hn.left.node
    injection e1 with e1
    subst e1
    cases r with
    | nil =>
      obtain rfl : ra = none := by have h : Value.pointer ra = .pointer none := hn.right; injection h
      clear hn
      go_enter Try.func78, Try.ntmps78
      go_wp2_with fail
      go_ret
      exact ⟨rfl, rfl⟩
    | node l2 k2 u2 r2 =>
      obtain ⟨b2, _, _, _, e2, _⟩ := hn.right.node
      injection e2 with e2
      subst e2
      clear hn
      go_enter Try.func78, Try.ntmps78
      go_wp2_with fail
      go_ret
      exact ⟨rfl, rfl⟩

def BytesPost (base : Nat) (L : List UInt8) (w : World) (e : Ending) (w' : World) : Prop := ∃ x, e = .returned x ∧ OwnB base w' x L ∧ Touch (From base) w w'
theorem wrap_u8 (n : Int) : IntKind.u8.wrap n = n % 256 := by first | rfl | simp [IntKind.wrap, IntKind.signed, IntKind.bits]
theorem two_lit (c n : Nat) (hc : c ≤ 3) : #[Value.int .u8 (c : Int), Value.int .u8 (IntKind.u8.wrap (n : Int))] = ((ub [lo c, lo n]).map (Value.int .u8)).toArray := by
  have h : (c : Int) % 256 = (c : Int) := by omega
  simp only [ub, List.map_cons, List.map_nil, lo_int, h, wrap_u8]
theorem cell_stepR {base : Nat} {w w' : World} {b o : Nat} {x : Value} (h : w.cell? ⟨b, o, none⟩ = some x) (hb : b < base) (ht : Touch (From base) w w') : w'.cell? ⟨b, o, none⟩ = some x := (ht.cell (World.block_lt_of_cell? w _ h) (fun c => by have c : base ≤ b := c; omega) o).trans h
set_option maxRecDepth 100000 in
set_option maxHeartbeats 4000000 in
theorem visitB_any {seed : Int} {R : Nat → Prop} {base : Nat} (hRB : ∀ b, R b → b < base) {w : World} {b : Nat} {iv : Value} {la ra : Option Addr} {l r : Tree} {k u : Key} {x : Value} {L : List UInt8} (hn : NodeV seed R w b iv la ra l k u r) (hx : OwnB base w x L) (hb : base ≤ w.heap.size) (hL : L.length ≤ 900000000) :
    Calls Try.prog 77 #[x, .pointer (some ⟨b, 0, none⟩)] w (BytesPost base (L ++ (lo (childN l r) :: toldK k u)) w) := by
  have HX := Lib.hid hx
  have HB := Lib.hid hb
  have HCH := Lib.hid (fun w' (ht : Touch Nil w w') => children_any (hn.keepN ht))
  have HCL := Lib.hid (childN_le l r)
  have hbB : b < base := hRB _ hn.own
  obtain ⟨ib, kv, uv, rfl, hibr, hih, hmk, hmu, hok⟩ := hn.item
  have hibB : ib < base := hRB _ hibr
  obtain ⟨x0, _, _, _, _⟩ := node_cells hn.blk
  obtain ⟨y0, y1, _⟩ := item_cells hih
  have HKK := Lib.hid (show ∀ w', Touch (From base) w w' → BV w' kv k ∧ BV w' uv u from fun w' ht => ⟨(hmk.keep ht fun c hc hs => by have hs : base ≤ c := hs; have := hRB c hc; omega).bv, (hmu.keep ht fun c hc hs => by have hs : base ≤ c := hs; have := hRB c hc; omega).bv⟩)
  obtain ⟨ka, kc, ek, _, _⟩ := hmk.bv
  obtain ⟨ua, uc, eu, _, _⟩ := hmu.bv
  obtain ⟨c, ec⟩ : ∃ c, childN l r = c := ⟨_, rfl⟩
  rw [ec] at HCH HCL ⊢
  obtain ⟨kl, ekl⟩ : ∃ kl, k.length = kl := ⟨_, rfl⟩
  obtain ⟨ul, eul⟩ : ∃ ul, u.length = ul := ⟨_, rfl⟩
  rw [ekl] at ek
  rw [eul] at eu
  subst ek
  subst eu
  have HLN := Lib.hid (show kl ≤ 64 ∧ ul ≤ 1000 from by rw [← ekl, ← eul]; exact hok.2)
  have HTK := Lib.hid (show L ++ (lo c :: toldK k u) = L ++ [lo c, lo kl] ++ leB ul 2 ++ k ++ u from by unfold toldK; rw [ekl, eul]; simp)
  have HKL := Lib.hid (And.intro ekl eul)
  obtain ⟨xa, xl, xc, rfl⟩ := hx.form
  have hk6 : kl ≤ 64 := HLN.out.1
  have hu6 : ul ≤ 1000 := HLN.out.2
  have hc3 : c ≤ 3 := HCL.out
  have HST := Lib.hid (fun w' (ht : Touch (From base) w w') => show w'.cell? ⟨b, 0, none⟩ = some (.pointer (some ⟨ib, 0, none⟩)) ∧ w'.cell? ⟨ib, 0, none⟩ = some (.slice ka kl kc) ∧ w'.cell? ⟨ib, 1, none⟩ = some (.slice ua ul uc) ∧ Hid (Touch (From base) w w') from ⟨cell_stepR x0 hbB ht, cell_stepR y0 hibB ht, cell_stepR y1 hibB ht, Lib.hid ht⟩)
  have HXD := Lib.hid (show OwnB base (w.alloc (.cells #[.int .u8 (c : Int), .int .u8 (IntKind.u8.wrap (kl : Int))] 5)).drew (.slice xa xl xc) L from hx.keep ((Touch.refl Nil w).alloc _).drew (fun _ _ c => c))
  have HLT := Lib.hid (show BV (w.alloc (.cells #[.int .u8 (c : Int), .int .u8 (IntKind.u8.wrap (kl : Int))] 5)).drew (.slice (some ⟨w.heap.size, 0, none⟩) 2 2) [lo c, lo kl] from (own_lit w [lo c, lo kl] _ (two_lit c kl hc3) (by simp)).bv.keepN (Touch.refl Nil _).drew)
  have HTD := Lib.hid (show Touch (From base) w (w.alloc (.cells #[.int .u8 (c : Int), .int .u8 (IntKind.u8.wrap (kl : Int))] 5)).drew from ((Touch.refl (From base) w).alloc _).drew)
  have HL0 := Lib.hid hL
  clear hn hx hih hmk hmu hok ekl eul ec hL hb
  go_enter Try.func77, Try.ntmps77
  go_upto_region 1 with fail
  go_region_held3 (fun w' => w'.cell? ⟨b, 0, none⟩ = some (.pointer (some ⟨ib, 0, none⟩)) ∧ w'.cell? ⟨ib, 0, none⟩ = some (.slice ka kl kc) ∧ w'.cell? ⟨ib, 1, none⟩ = some (.slice ua ul uc) ∧ Hid (Touch (From base) w w'))
    (first | (with_reducible exact HST.out _ (Touch.refl (From base) w).drew) | (with_reducible exact HST.out _ HTD.out) | (with_reducible exact HST.out _ hT5))
    (first
      | (go_at_call_of 78 (Value.pointer (some ⟨b, 0, none⟩)); refine (HCH.out _ (Touch.refl Nil w).drew).mono ?_; rintro e w9 ⟨rfl, hw9⟩; have hw9 := hw9.symm; subst hw9)
      | (refine step_append_bytes rfl (.tmp 5) (.tmp 17) rfl base (.slice xa xl xc) (.slice (some ⟨w.heap.size, 0, none⟩) 2 2) L [lo c, lo kl] rfl HXD.out rfl HLT.out (by simp) (by have := HL0.out; simp; omega) (Nat.le_trans HB.out HTD.out.size) ?_; intro v5 w5 ho5 ht5; have hT5 : Touch (From base) w w5 := HTD.out.trans (ht5.out.mono fun b _ hs => (HXD.out.block b hs).1); obtain ⟨va5, vl5, vc5, rfl⟩ := ho5.out.form; have HO5 := ho5; clear ho5 ht5))
  rename_i hHeldX
  clear hHeldX
  obtain ⟨q0, q1, q2, _⟩ := HST.out w5 hT5
  have HT5 := Lib.hid hT5
  have HLN5 := Lib.hid (show (L ++ [lo c, lo kl]).length ≤ 900000002 from by have := HL0.out; simp; omega)
  have HSZ5 := Lib.hid (show base ≤ w5.heap.size from Nat.le_trans HB.out hT5.size)
  clear hT5 x0 y0 y1 HXD HLT HTD HCH HX
  go_wp2_with fail
  refine (appendLittle_any base ul 2 (.slice va5 vl5 vc5) (L ++ [lo c, lo kl]) w5 HO5.out HSZ5.out (by have := HLN5.out; omega) (by omega) (by omega)).mono ?_
  rintro e w6 ⟨v6, rfl, ho6, ht6⟩
  obtain ⟨va6, vl6, vc6, rfl⟩ := ho6.form
  have HO6 := Lib.hid ho6
  have HT6 := Lib.hid (HT5.out.trans ht6)
  have HSZ6 := Lib.hid (show base ≤ w6.heap.size from Nat.le_trans HSZ5.out ht6.size)
  have HLN6 := Lib.hid (show (L ++ [lo c, lo kl] ++ leB ul 2).length ≤ 900000004 from by have h := HLN5.out; rw [List.length_append, leB_len]; omega)
  clear ho6 ht6 q0 q1 q2
  obtain ⟨q0, q1, q2, _⟩ := HST.out w6 HT6.out
  have HK6 := Lib.hid (HKK.out w6 HT6.out).1
  go_wp2_with (refine wpList_append_bytes rfl (.tmp 30) (.tmp 37) rfl base (.slice va6 vl6 vc6) (.slice ka kl kc) (L ++ [lo c, lo kl] ++ leB ul 2) k ?a1 ?a2 ?a3 ?a4 ?a5 ?a6 ?a7)
  case a1 => rfl
  case a2 => exact HO6.out
  case a3 => rfl
  case a4 => exact HK6.out
  case a5 => have h1 := HLN6.out; have h2 := HKL.out.1; omega
  case a6 => exact HSZ6.out
  intro v7 w7 ho7 ht7 _
  obtain ⟨va7, vl7, vc7, rfl⟩ := ho7.out.form
  have HO7 := Lib.hid (show OwnB base w7 (.slice va7 vl7 vc7) (L ++ [lo c, lo kl] ++ leB ul 2 ++ k) from by first | exact ho7.out | simpa using ho7.out)
  have HT67 := Lib.hid (show Touch (From base) w6 w7 from ht7.out.mono fun b _ hs => (HO6.out.block b hs).1)
  have HT7 := Lib.hid (HT6.out.trans HT67.out)
  have HSZ7 := Lib.hid (show base ≤ w7.heap.size from Nat.le_trans HSZ6.out HT67.out.size)
  have HLN7 := Lib.hid (show (L ++ [lo c, lo kl] ++ leB ul 2 ++ k).length ≤ 900000100 from by have h := HLN6.out; have h2 := HKL.out.1; rw [List.length_append]; omega)
  clear ho7 ht7 q0 q1 q2
  obtain ⟨q0, q1, q2, _⟩ := HST.out w7 HT7.out
  have HU7 := Lib.hid (HKK.out w7 HT7.out).2
  go_wp2_with (refine wpList_append_bytes rfl (.tmp 39) (.tmp 46) rfl base (.slice va7 vl7 vc7) (.slice ua ul uc) (L ++ [lo c, lo kl] ++ leB ul 2 ++ k) u ?b1 ?b2 ?b3 ?b4 ?b5 ?b6 ?b7)
  case b1 => rfl
  case b2 => exact HO7.out
  case b3 => rfl
  case b4 => exact HU7.out
  case b5 => have h1 := HLN7.out; have h2 := HKL.out.2; omega
  case b6 => exact HSZ7.out
  intro v8 w8 ho8 ht8 _
  obtain ⟨va8, vl8, vc8, rfl⟩ := ho8.out.form
  have HT8 := Lib.hid (HT7.out.trans (ht8.out.mono fun b _ hs => (HO7.out.block b hs).1))
  clear ht8
  go_wp2_with fail
  go_ret
  exact ⟨_, rfl, by rw [HTK.out]; first | exact ho8.out | simpa using ho8.out, HT8.out⟩

theorem imgT_len : ∀ {t : Tree}, OkL' t → (imgT t).length ≤ t.size * 1068
  | .nil, _ => by simp [imgT]
  | .node l k u r, h => by
    have h1 := imgT_len h.2.1
    have h2 := imgT_len h.2.2
    have h3 := h.1
    unfold okK at h3
    simp only [imgT, List.length_append, List.length_cons, toldK_len, Tree.size]
    omega

set_option maxRecDepth 100000 in
set_option maxHeartbeats 4000000 in
theorem gatherB_any {seed : Int} {R : Nat → Prop} {base : Nat} (hRB : ∀ b, R b → b < base) : ∀ (m : Nat) (t : Tree) {w : World} {v x : Value} {L : List UInt8}, t.size ≤ m → TreeAt seed R w t v → OwnB base w x L → base ≤ w.heap.size → L.length + t.size * 1068 ≤ 900000000 →
    Calls Try.prog 76 #[v, x, .func (.func 77) #[] #[]] w (BytesPost base (L ++ imgT t) w) := by
  intro m
  induction m with
  | zero =>
    intro t w v x L hm h hx hb hL
    cases t with
    | node l k u r => simp only [Tree.size] at hm; omega
    | nil =>
      obtain rfl : v = _ := h
      have HX := Lib.hid hx
      obtain ⟨xa, xl, xc, rfl⟩ := hx.form
      clear hx
      go_enter Try.func76, Try.ntmps76
      go_wp2_with fail
      go_loopg [0, 1] 0 (fun j n g wr => n = .pointer none ∧ g = .slice xa xl xc ∧ w = wr)
      case atStart => exact ⟨rfl, rfl, rfl⟩
      obtain ⟨rfl, rfl, rfl⟩ := hrel
      go_wp2_with fail
      go_ret
      exact ⟨_, rfl, by simpa [imgT] using HX.out, Touch.refl _ _⟩
  | succ m ih =>
    intro t w v x L hm h hx hb hL
    have HX := Lib.hid hx
    have HH := Lib.hid h
    have IH := Lib.hid @ih
    obtain ⟨xa, xl, xc, rfl⟩ := hx.form
    obtain ⟨va, rfl⟩ := h.form
    have HM := Lib.hid hm
    have HLB := Lib.hid hL
    have HOK := Lib.hid (treeAt_okT h)
    clear h hx ih hm hL
    go_enter Try.func76, Try.ntmps76
    go_wp2_with fail
    go_loopg [0, 1] t.size (fun j n g wr => ∃ (a : Option Addr) (s : Tree) (ga : Option Addr) (gl gc : Nat) (L1 : List UInt8), n = .pointer a ∧ g = .slice ga gl gc ∧ Hid (TreeAt seed R wr s (.pointer a) ∧ OwnB base wr (.slice ga gl gc) L1 ∧ L1 ++ imgT s = L ++ imgT t ∧ s.size ≤ j ∧ s.size ≤ t.size ∧ L1.length + s.size * 1068 ≤ 900000000) ∧ Touch (From base) w wr)
    case atStart => exact ⟨va, t, xa, xl, xc, L, rfl, rfl, Lib.hid ⟨HH.out, HX.out, rfl, Nat.le_refl _, Nat.le_refl _, HLB.out⟩, Touch.refl _ _⟩
    obtain ⟨a, s, ga, gl, gc, L1, rfl, rfl, HR, hto⟩ := hrel
    have HT := Lib.hid hto
    clear hto
    cases s with
    | nil =>
      obtain rfl : a = none := by have h : Value.pointer a = .pointer none := HR.out.1; injection h
      go_wp2_with fail
      go_ret
      exact ⟨_, rfl, by have h := HR.out.2.2.1; simp only [imgT, List.append_nil] at h; rw [← h]; exact HR.out.2.1, HT.out⟩
    | node l k u r =>
      obtain ⟨b, ib, la, ra, hbb, hn⟩ := HR.out.1.node
      injection hbb with hbb
      subst hbb
      obtain ⟨hts, hno, heq, hsj, hst, hln⟩ := HR.out
      have hoks := treeAt_okT hts
      have hll := imgT_len hoks.2.1
      have hokk := hoks.1
      have HEQ := Lib.hid heq
      have HSJ := Lib.hid (And.intro hsj (And.intro hst hln))
      have hbw : base ≤ wr.heap.size := Nat.le_trans hb HT.out.size
      have hkl : (lo (childN l r) :: toldK k u).length ≤ 1068 := by unfold okK at hokk; simp only [List.length_cons, toldK_len]; omega
      have HKLN := Lib.hid (And.intro hkl hll)
      have HV := Lib.hid (visitB_any hRB hn hno hbw (by simp only [Tree.size] at hln; omega))
      have keep : ∀ w', Touch (From base) wr w' → NodeV seed R w' b (.pointer (some ⟨ib, 0, none⟩)) la ra l k u r := fun w' ht => hn.keep ht fun c hc hs => by have hs : base ≤ c := hs; have := hRB c hc; omega
      have HKP := Lib.hid keep
      have HBW := Lib.hid hbw
      clear hn hno heq hsj hst hln keep HR hbw hts hoks hokk hkl hll
      go_wp2_with fail
      refine HV.out.mono ?_
      rintro e w2 ⟨x2, rfl, ho2, ht2⟩
      obtain ⟨xa2, xl2, xc2, rfl⟩ := ho2.form
      have HO2 := Lib.hid ho2
      have HT2 := Lib.hid ht2
      have HN2 := Lib.hid (HKP.out w2 ht2)
      obtain ⟨_, _, _, y3, _⟩ := node_cells HN2.out.blk
      have HG := Lib.hid (IH.out l (w := w2) (v := .pointer la) (x := .slice xa2 xl2 xc2) (L := L1 ++ (lo (childN l r) :: toldK k u)) (by have := HM.out; have := HSJ.out.2.1; simp only [Tree.size] at this; omega) HN2.out.left HO2.out (Nat.le_trans HBW.out HT2.out.size) (by have h1 := HSJ.out.2.2; have h2 := HKLN.out.1; rw [List.length_append]; simp only [Tree.size] at h1; omega))
      clear ho2 ht2
      go_wp2_with fail
      refine HG.out.mono ?_
      rintro e w3 ⟨x3, rfl, ho3, ht3⟩
      obtain ⟨xa3, xl3, xc3, rfl⟩ := ho3.form
      have HO3 := Lib.hid ho3
      have HT23 := Lib.hid (HT2.out.trans ht3)
      have HN3 := Lib.hid (HKP.out w3 HT23.out)
      obtain ⟨_, _, _, _, z4⟩ := node_cells HN3.out.blk
      clear ho3 ht3 y3
      go_wp2_with fail
      go_roundg r.size
      case measure => have := HSJ.out.1; simp only [Tree.size] at this; omega
      case rel =>
        refine ⟨ra, r, xa3, xl3, xc3, _, rfl, rfl, Lib.hid ⟨HN3.out.right, HO3.out, ?_, Nat.le_refl _, ?_, ?_⟩, HT.out.trans HT23.out⟩
        · rw [← HEQ.out]; simp [imgT]
        · have := HSJ.out.2.1; simp only [Tree.size] at this; omega
        · have h1 := HSJ.out.2.2; have h2 := HKLN.out.1; have h3 := HKLN.out.2; simp only [Tree.size] at h1; rw [List.length_append, List.length_append]; omega

def ImgOf (t : Tree) (w : World) (e : Ending) (w' : World) : Prop := ∃ x, e = .returned x ∧ OwnB w.heap.size w' x (imgB t) ∧ Touch Nil w w'
set_option maxHeartbeats 1000000 in
theorem image_map {seed : Int} {R : Nat → Prop} {w : World} {mb bb : Nat} {ra : Option Addr} {t : Tree} (h : MapAt seed R w mb bb ra t) : Calls Try.prog 27 #[.pointer (some ⟨mb, 0, none⟩)] w (ImgOf t w) := by
  have HMI := Lib.hid (missing_map h)
  have HLE := Lib.hid (len_map h)
  have HRO := Lib.hid (fun w' (ht : Touch Nil w w') => root_map (h.keepN ht))
  have HSZ := Lib.hid h.size
  have HTR := Lib.hid (fun w' (ht : Touch Nil w w') => (h.tree.mono (R' := fun b => R b ∧ b < w.heap.size) fun b hb hr => ⟨hr, hb⟩).keepN ht)
  clear h
  go_enter Try.func27, Try.ntmps27
  go_wp2_with fail
  refine HMI.out.mono ?_
  rintro e w' ⟨rfl, rfl⟩
  go_wp2_with fail
  refine HLE.out.mono ?_
  rintro e w' ⟨rfl, rfl⟩
  have hz : t.size ≤ 100000 := HSZ.out
  go_wp2_with fail
  refine (appendLittle_any w.heap.size t.size 4 (.slice none 0 0) [] w ⟨rfl, .inl ⟨rfl, rfl⟩⟩ (Nat.le_refl _) (by simp) (by omega) (by omega)).mono ?_
  rintro e w2 ⟨v2, rfl, ho2, ht2⟩
  obtain ⟨va2, vl2, vc2, rfl⟩ := ho2.form
  have HO2 := Lib.hid ho2
  have HT2 := Lib.hid (show Touch Nil w w2 from ht2.mono fun b hb hs => by have hs : w.heap.size ≤ b := hs; omega)
  have HSZ2 := Lib.hid ht2.size
  clear ho2 ht2
  have HGB := Lib.hid (gatherB_any (fun b hb => hb.2) t.size t (Nat.le_refl _) (HTR.out w2 HT2.out) HO2.out HSZ2.out (by rw [List.nil_append, leB_len]; omega))
  go_wp2_with fail
  refine (HRO.out _ HT2.out).mono ?_
  rintro e w' ⟨rfl, rfl⟩
  go_wp2_with fail
  refine HGB.out.mono ?_
  rintro e w3 ⟨x3, rfl, ho3, ht3⟩
  obtain ⟨va3, vl3, vc3, rfl⟩ := ho3.form
  have HO3 := Lib.hid ho3
  have HT3 := Lib.hid (show Touch Nil w w3 from HT2.out.trans' ht3 fun b hb hs => by have hs : w.heap.size ≤ b := hs; omega)
  clear ho3 ht3
  go_wp2_with fail
  go_ret
  exact ⟨_, rfl, by simpa [imgB] using HO3.out, HT3.out⟩
end Go.Proofs.Ytkkpcndpjkebkaa
