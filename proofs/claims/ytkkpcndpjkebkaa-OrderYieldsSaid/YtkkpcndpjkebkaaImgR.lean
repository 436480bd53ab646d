import Derived.Test.YtkkpcndpjkebkaaImgP
import Derived.Test.YtkkpcndpjkebkaaProveR
/- The image of a map, as the definition makes it. -/
namespace Go.Proofs.Ytkkpcndpjkebkaa
open Go.ChangeShapes Go.WideShapes Go.ChangeAt Go.RowKit Go.Deep

/-- Bytes that are there, as append reads them. -/
theorem bv_news {w : World} {x : Value} {m : List UInt8} (h : BV w x m) (hm : m ≠ []) : ∃ ad cap, x = .slice (some ad) m.length cap ∧ (∀ j u, ((ub m).map (Value.int .u8))[j]? = some u → w.cell? (ad.add j) = some u) ∧ ∀ u ∈ (ub m).map (Value.int .u8), u.oneCell' = true := by
  obtain ⟨ao, cap, rfl, hnone, hsl⟩ := h
  cases ao with
  | none => exact absurd (hnone rfl).1 hm
  | some ad =>
    refine ⟨ad, cap, rfl, fun j u hj => ?_, fun u hu => ?_⟩
    · by_cases hjm : j < m.length
      · obtain ⟨b, off, e, hc⟩ := hsl j (by simpa using hjm)
        cases e
        rw [add_plain, hc]
        rw [List.getElem?_map, List.getElem?_eq_getElem (by simpa using hjm)] at hj
        simp [List.getD_eq_getElem?_getD, hjm] at hj ⊢
        exact hj
      · simp [hjm] at hj
    · obtain ⟨n, _, rfl⟩ := List.mem_map.1 hu
      rfl
theorem own_join {base : Nat} {w' : World} {g n cap : Nat} {l m : List UInt8} (hn : n = l.length + m.length) (h : w'.ownsRow base 5 1 (.slice (some ⟨g, 0, none⟩) n cap) n ((ub l).map (Value.int .u8) ++ (ub m).map (Value.int .u8))) : OwnB base w' (.slice (some ⟨g, 0, none⟩) n cap) (l ++ m) := by
  show w'.ownsRow base 5 1 (.slice (some ⟨g, 0, none⟩) n cap) (l ++ m).length ((ub (l ++ m)).map (Value.int .u8))
  have : (ub (l ++ m)).map (Value.int .u8) = (ub l).map (Value.int .u8) ++ (ub m).map (Value.int .u8) := by simp [ub]
  rw [this, List.length_append, ← hn]
  exact h
/-- append of bytes, and where the new ones lie. -/
theorem wpList_append_bytesF {w : World} {ops : Array Oper} {rest : List Oper} {o : Oper} {a : Act} {Q : Exit → Act → World → Prop} (hgd : o.guard = none) (s x : Operand)
    (ho : o.op = .call { callee := .builtin .append, args := #[s, x], argTypes := #[29, 29] })
    (base : Nat) (v xv : Value) (l m : List UInt8) (hs : a.eval s = v) (hown : OwnB base w v l) (hx : a.eval x = xv) (hbv : BV w xv m) (hm : m ≠ [])
    (hlen : l.length + m.length ≤ 1073741824) (hbase : base ≤ w.heap.size)
    (h : ∀ g n cap w', Hid (OwnB base w' (.slice (some ⟨g, 0, none⟩) n cap) (l ++ m)) → Hid (Touch (OwnOf v) w w') → Hid (OwnOf v g ∨ w.heap.size ≤ g) → wpList Try.prog ops Q rest (a.put o.dst (.slice (some ⟨g, 0, none⟩) n cap)) w') : wpList Try.prog ops Q (o :: rest) a w := by
  obtain ⟨i0, hi, hz0, hz1, hz2⟩ := info_parts infoByte
  obtain ⟨ad, cap, rfl, hc, h1⟩ := bv_news hbv hm
  refine wpList_append_lies w hgd s x 29 ho base 5 i0 (.int .u8 0) 1 1 Try.underlying29 hi hz0 hz1 hz2 rfl (by decide) v l.length _ hs hown ad m.length cap _ hx (by simp) hc h1 (List.length_pos_iff.2 hm) (by unfold maxLen; omega) (by omega) hbase _ rfl ?_
  intro g cap' w' hown' hgrow hat _
  refine h g _ cap' w' (show _ from own_join rfl hown') (show _ from touch_grown hgrow) (show _ from ?_)
  rcases hat with hat | hat
  · exact .inl hat.symm
  · exact .inr (by omega)
theorem step_append_bytesF {w : World} {ops : Array Oper} {o : Oper} {a : Act} {K : Act → World → Prop} {Q : Exit → Act → World → Prop} {E : Prop} (hgd : o.guard = none) (s x : Operand)
    (ho : o.op = .call { callee := .builtin .append, args := #[s, x], argTypes := #[29, 29] })
    (base : Nat) (v xv : Value) (l m : List UInt8) (hs : a.eval s = v) (hown : OwnB base w v l) (hx : a.eval x = xv) (hbv : BV w xv m) (hm : m ≠ [])
    (hlen : l.length + m.length ≤ 1073741824) (hbase : base ≤ w.heap.size)
    (h : ∀ g n cap w', Hid (OwnB base w' (.slice (some ⟨g, 0, none⟩) n cap) (l ++ m)) → Hid (Touch (OwnOf v) w w') → Hid (OwnOf v g ∨ w.heap.size ≤ g) → K (a.put o.dst (.slice (some ⟨g, 0, none⟩) n cap)) w') :
    if Region.wanted o (yielded ops a.tmps) = true then Oper.wp Try.prog o a w K Q else E := by
  obtain ⟨i0, hi, hz0, hz1, hz2⟩ := info_parts infoByte
  obtain ⟨ad, cap, rfl, hc, h1⟩ := bv_news hbv hm
  refine step_append_lies w hgd s x 29 ho base 5 i0 (.int .u8 0) 1 1 Try.underlying29 hi hz0 hz1 hz2 rfl (by decide) v l.length _ hs hown ad m.length cap _ hx (by simp) hc h1 (List.length_pos_iff.2 hm) (by unfold maxLen; omega) (by omega) hbase _ rfl ?_
  intro g cap' w' hown' hgrow hat _
  refine h g _ cap' w' (show _ from own_join rfl hown') (show _ from touch_grown hgrow) (show _ from ?_)
  rcases hat with hat | hat
  · exact .inl hat.symm
  · exact .inr (by omega)

set_option maxRecDepth 100000 in
set_option maxHeartbeats 2000000 in
theorem toldR_any {w : World} {x y : Value} {k u : Key} (hx : BV w x k) (hy : BV w y u) (hk : k.length ≤ 1000000) (hu : u.length ≤ 1000000) :
    Calls Try.prog 102 #[x, y] w (ClonePost (toldK k u) w) := by
  have HK := Lib.hid hx
  have HU := Lib.hid hy
  obtain ⟨ka, kc, rfl, _, _⟩ := hx
  obtain ⟨ua, uc, rfl, _, _⟩ := hy
  have HTK := Lib.hid (show toldK k u = leB k.length 1 ++ leB u.length 2 ++ k ++ u from by simp [toldK, leB])
  obtain ⟨kl, ekl⟩ : ∃ kl, k.length = kl := ⟨_, rfl⟩
  obtain ⟨ul, eul⟩ : ∃ ul, u.length = ul := ⟨_, rfl⟩
  rw [ekl] at HK HTK hk ⊢
  rw [eul] at HU HTK hu ⊢
  have HKL := Lib.hid (And.intro ekl eul)
  clear ekl eul
  go_enter Try.func102, Try.ntmps102
  go_wp2_with fail
  refine (littleR_any kl 1 w (by omega) (by omega)).mono ?_
  rintro e w3 ⟨v3, rfl, ho3, ht3⟩
  obtain ⟨va3, vl3, vc3, rfl⟩ := ho3.form
  have HO3 := Lib.hid ho3
  have HT3 := Lib.hid ht3
  clear ho3 ht3
  go_wp2_with fail
  refine (littleR_any ul 2 w3 (by omega) (by omega)).mono ?_
  rintro e q4 ⟨u4, rfl, hq4, htq4⟩
  obtain ⟨ua4, ul4, uc4, rfl⟩ := hq4.form
  have HQ4 := Lib.hid hq4.bv
  have HOP4 := Lib.hid (HO3.out.keep htq4 fun _ _ c => c)
  have HTP4 := Lib.hid (HT3.out.trans htq4)
  clear hq4 htq4
  go_wp2_with (refine wpList_append_bytes rfl (.tmp 10) (.tmp 14) rfl w.heap.size (.slice va3 vl3 vc3) (.slice ua4 ul4 uc4) (leB kl 1) (leB ul 2) ?a4 ?b4 ?c4 ?d4 ?e4 ?f4 ?g4)
  case b4 => exact HOP4.out
  case a4 => rfl
  case c4 => rfl
  case d4 => exact HQ4.out
  case e4 => have := leB_len kl 1; have := leB_len ul 2; omega
  case f4 => exact HTP4.out.size
  intro v4 w4 hO4 hT4 _
  obtain ⟨va4, vl4, vc4, rfl⟩ := hO4.out.form
  have HO4 := Lib.hid (show OwnB w.heap.size w4 (.slice va4 vl4 vc4) (leB kl 1 ++ leB ul 2) from by first | exact hO4.out | simpa [List.append_assoc] using hO4.out)
  have HT4 := Lib.hid (show Touch Nil w w4 from HTP4.out.trans' hT4.out fun b hb hs => by have := (HOP4.out.block b hs).1; omega)
  have HN4 := Lib.hid (show (leB kl 1 ++ leB ul 2).length ≤ 3 from by rw [List.length_append, leB_len, leB_len]; omega)
  clear hO4 hT4
  go_wp2_with (refine wpList_append_bytes rfl (.tmp 16) (.tmp 17) rfl w.heap.size (.slice va4 vl4 vc4) (.slice ka kl kc) (leB kl 1 ++ leB ul 2) k ?a5 ?b5 ?c5 ?d5 ?e5 ?f5 ?g5)
  case b5 => exact HO4.out
  case a5 => rfl
  case c5 => rfl
  case d5 => exact HK.out.keepN HT4.out
  case e5 => have := HN4.out; have := HKL.out.1; omega
  case f5 => exact HT4.out.size
  intro v5 w5 hO5 hT5 _
  obtain ⟨va5, vl5, vc5, rfl⟩ := hO5.out.form
  have HO5 := Lib.hid (show OwnB w.heap.size w5 (.slice va5 vl5 vc5) (leB kl 1 ++ leB ul 2 ++ k) from by first | exact hO5.out | simpa [List.append_assoc] using hO5.out)
  have HT5 := Lib.hid (show Touch Nil w w5 from HT4.out.trans' hT5.out fun b hb hs => by have := (HO4.out.block b hs).1; omega)
  have HN5 := Lib.hid (show (leB kl 1 ++ leB ul 2 ++ k).length ≤ 1000003 from by have := HN4.out; have := HKL.out.1; rw [List.length_append]; omega)
  clear hO5 hT5
  go_wp2_with (refine wpList_append_bytes rfl (.tmp 19) (.tmp 20) rfl w.heap.size (.slice va5 vl5 vc5) (.slice ua ul uc) (leB kl 1 ++ leB ul 2 ++ k) u ?a6 ?b6 ?c6 ?d6 ?e6 ?f6 ?g6)
  case b6 => exact HO5.out
  case a6 => rfl
  case c6 => rfl
  case d6 => exact HU.out.keepN HT5.out
  case e6 => have := HN5.out; have := HKL.out.2; omega
  case f6 => exact HT5.out.size
  intro v6 w6 hO6 hT6 _
  obtain ⟨va6, vl6, vc6, rfl⟩ := hO6.out.form
  have HT6 := Lib.hid (show Touch Nil w w6 from HT5.out.trans' hT6.out fun b hb hs => by have := (HO5.out.block b hs).1; omega)
  clear hT6
  go_wp2_with fail
  go_ret
  exact ⟨_, rfl, by rw [HTK.out]; first | exact hO6.out | simpa [List.append_assoc] using hO6.out, HT6.out⟩

/-- Which children a node that is told has. -/
def chN (x : NodeC) : Nat := (if 0 ≤ x.l then 1 else 0) + (if 0 ≤ x.r then 2 else 0)
def imgN : List NodeC → List UInt8
  | [] => []
  | x :: L => (lo (chN x) :: toldK x.k x.u) ++ imgN L
theorem imgN_app : ∀ (A B : List NodeC), imgN (A ++ B) = imgN A ++ imgN B
  | [], _ => rfl
  | x :: A, B => by simp [imgN, imgN_app A B]
theorem chN_at (seed : Int) (b : Nat) (l r : Tree) (k u : Key) : chN (nodeAt seed b l k u r) = childN l r := by
  have a1 : (if (0 : Int) ≤ childAt l (b + 1) then 1 else 0 : Nat) = (match l with | .nil => 0 | .node _ _ _ _ => 1) := by
    cases l with
    | nil => rfl
    | node _ _ _ _ => exact if_pos (Int.natCast_nonneg _)
  have a2 : (if (0 : Int) ≤ childAt r (b + 1 + l.size) then 2 else 0 : Nat) = (match r with | .nil => 0 | .node _ _ _ _ => 2) := by
    cases r with
    | nil => rfl
    | node _ _ _ _ => exact if_pos (Int.natCast_nonneg _)
  show (if (0 : Int) ≤ childAt l (b + 1) then 1 else 0 : Nat) + (if (0 : Int) ≤ childAt r (b + 1 + l.size) then 2 else 0 : Nat) = _
  rw [a1, a2]; rfl
theorem imgN_nodes (seed : Int) : ∀ (t : Tree) (b : Nat), imgN (nodesT seed b t) = imgT t
  | .nil, _ => rfl
  | .node l k u r, b => by
    simp only [nodesT, imgN, imgT, imgN_app, imgN_nodes seed l, imgN_nodes seed r, chN_at]
    rfl
theorem imgN_len {N : List NodeC} (h : ∀ x ∈ N, okK x.k x.u) : (imgN N).length ≤ N.length * 1068 := by
  induction N with
  | nil => simp [imgN]
  | cons x N ih =>
    have h1 := ih fun y hy => h y (List.mem_cons_of_mem _ hy)
    have h2 := h x (List.mem_cons_self)
    unfold okK at h2
    simp only [imgN, List.length_append, List.length_cons, toldK_len]
    omega
theorem nodesT_okK (seed : Int) : ∀ (t : Tree) (b : Nat), OkL t.toL → ∀ x ∈ nodesT seed b t, okK x.k x.u
  | .nil, _, _, x, hx => by simp [nodesT] at hx
  | .node l k u r, b, ho, x, hx => by
    simp only [nodesT, List.mem_cons, List.mem_append] at hx
    rcases hx with rfl | hx | hx
    · exact ho (k, u) (by simp [Tree.toL])
    · exact nodesT_okK seed l _ (fun p hp => ho p (by simp [Tree.toL, hp])) x hx
    · exact nodesT_okK seed r _ (fun p hp => ho p (by simp [Tree.toL, hp])) x hx
/-- A list of nodes that lies with all its bytes between two heights. -/
theorem NGL.keep {lo hi : Nat} {S : Nat → Prop} {w w' : World} {x : Value} {L : List NodeC} (h : RL 6 (nodeG lo) w x L) (hx : ∀ b, OwnOf x b → lo ≤ b) (hw : w.heap.size = hi) (ht : Touch S w w') (hS : ∀ b, lo ≤ b → b < hi → ¬ S b) : RL 6 (nodeG lo) w' x L := by
  obtain ⟨ao, cap, v, rfl, h1, h2, h3, h4⟩ := h
  refine ⟨ao, cap, v, rfl, h1, h2, fun h0 => ?_, fun i a ha c hc => ?_⟩
  · obtain ⟨b, off, e, hlt, hcl⟩ := h3 h0
    subst e
    exact ⟨b, off, rfl, Nat.lt_of_lt_of_le hlt ht.size, fun i hi c hcc => (ht.cell hlt (hS b (hx b rfl) (by omega)) _).trans (hcl i hi c hcc)⟩
  · have hf := h4 i a ha c hc
    match c, hf with
    | 0, hf => exact ⟨BV.keepE hf.1 ht fun hne b ho => hS b (hf.2 hne b ho).1 (by have := BV.low hf.1 hne b ho; omega), fun hne b ho => ⟨(hf.2 hne b ho).1, (hf.2 hne b ho).2.keep ht (hS b (hf.2 hne b ho).1 (by have := BV.low hf.1 hne b ho; omega))⟩⟩
    | 1, hf => exact ⟨BV.keepE hf.1 ht fun hne b ho => hS b (hf.2 hne b ho).1 (by have := BV.low hf.1 hne b ho; omega), fun hne b ho => ⟨(hf.2 hne b ho).1, (hf.2 hne b ho).2.keep ht (hS b (hf.2 hne b ho).1 (by have := BV.low hf.1 hne b ho; omega))⟩⟩
    | 2, hf => exact hf
    | 3, hf => exact hf
    | 4, hf => exact hf
    | _ + 5, hf => exact hf
theorem NGL.nl {lo : Nat} {w : World} {x : Value} {L : List NodeC} (h : RL 6 (nodeG lo) w x L) : NL w x L := by
  obtain ⟨ao, cap, v, e, h1, h2, h3, h4⟩ := h
  exact ⟨ao, cap, v, e, h1, h2, h3, fun i a ha c hc => nodeG_F (h4 i a ha c hc)⟩
/-- What the image's bytes may lie in. -/
def Outs (B0 B1 B2 b : Nat) : Prop := B0 ≤ b ∧ (b < B1 ∨ B2 ≤ b)
theorem one_lit (c : Nat) (hc : c ≤ 3) : #[Value.int .u8 (c : Int)] = ((ub [lo c]).map (Value.int .u8)).toArray := by
  have h : (c : Int) % 256 = (c : Int) := by omega
  simp only [ub, List.map_cons, List.map_nil, lo_int, h]
theorem take_next {α : Type} {N : List α} {x : Nat} {q : α} (h : N[x]? = some q) : N.take (x + 1) = N.take x ++ [q] := by rw [List.take_add_one, h]; rfl

set_option maxRecDepth 100000 in
set_option maxHeartbeats 4000000 in
theorem imageR_any {seed : Int} {t : Tree} {w : World} {lx : Value} (hs : Srt t.toL) (hh : t.Heap (abv seed)) (ho : OkL t.toL) (hp : PL w lx t.toL) (hz : t.size ≤ 100000) :
    Calls Try.prog 56 #[.int .u64 seed, lx] w (ImgOf t w) := by
  have HND := Lib.hid (fun w' (ht : Touch Nil w w') => nodesR_new (seed := seed) hs hh ho (hp.keepN ht) (by omega))
  have HIM := Lib.hid (show imgB t = leB t.size 4 ++ imgN (nodesT seed 0 t) from by rw [imgN_nodes]; rfl)
  have hok := nodesT_okK seed t 0 ho
  have hnl := nodesT_len seed t 0
  obtain ⟨la, ln, lc, rfl⟩ := hp.form3
  have hln : ln = t.size := by rw [hp.len, ← size_toL]
  rw [← hln] at HIM hnl hz
  obtain ⟨N, eN⟩ : ∃ N, nodesT seed 0 t = N := ⟨_, rfl⟩
  rw [eN] at HIM hok hnl
  have HOK := Lib.hid hok
  have HNL := Lib.hid hnl
  have HEN := Lib.hid eN
  clear hs hh ho hp hok hnl hln eN
  go_enter Try.func56, Try.ntmps56
  go_wp2_with fail
  refine (littleR_any ln 4 w (by omega) (by omega)).mono ?_
  rintro e w1 ⟨v1, rfl, ho1, ht1⟩
  obtain ⟨va1, vl1, vc1, rfl⟩ := ho1.form
  have HO1 := Lib.hid ho1
  have HT1 := Lib.hid ht1
  clear ho1 ht1
  go_wp2_with fail
  refine (HND.out _ HT1.out).mono ?_
  rintro e w2 ⟨nx, rfl, hng, ht2⟩
  rw [HEN.out] at hng
  obtain ⟨na, nn, nc, rfl⟩ := hng.form3
  obtain ⟨B1, eB1⟩ : ∃ B1, w1.heap.size = B1 := ⟨_, rfl⟩
  obtain ⟨B2, eB2⟩ : ∃ B2, w2.heap.size = B2 := ⟨_, rfl⟩
  rw [eB1] at hng
  have HNB := Lib.hid (OL.base' hng)
  have HNG := Lib.hid hng.rl
  have HNN := Lib.hid (show nn = N.length from hng.rl.len)
  have HB := Lib.hid (And.intro eB1 eB2)
  have HB12 := Lib.hid (show w.heap.size ≤ B1 ∧ B1 ≤ B2 from ⟨by have := HT1.out.size; omega, by have := ht2.size; omega⟩)
  have HO2 := Lib.hid (show OwnB w.heap.size w2 (.slice va1 vl1 vc1) (leB ln 4 ++ imgN (N.take 0)) from by simpa [imgN] using HO1.out.keep ht2 fun _ _ c => c)
  have HL2 := Lib.hid (show ∀ b, OwnOf (.slice va1 vl1 vc1) b → b < B1 ∨ B2 ≤ b from fun b hb => .inl (by have := (HO1.out.block b hb).2; omega))
  have HT2 := Lib.hid (HT1.out.trans ht2)
  have hnz : nn ≤ 100000 := by have h1 := HNN.out; have h2 := HNL.out; omega
  clear hng ht2 eB1 eB2 HO1 HND
  go_wp2_with fail
  go_loopw [5, 7] (fun o i wr => ∃ (x : Nat) (oa : Option Addr) (ol oc : Nat), x ≤ nn ∧ o = .slice oa ol oc ∧ i = .int .i64 (x : Int) ∧ Hid (OwnB w.heap.size wr (.slice oa ol oc) (leB ln 4 ++ imgN (N.take x)) ∧ ∀ b, OwnOf (.slice oa ol oc) b → b < B1 ∨ B2 ≤ b) ∧ Touch (Outs w.heap.size B1 B2) w2 wr) (fun _ i _ => nn - (intOf i).toNat)
  case atStart => exact ⟨0, va1, vl1, vc1, Nat.zero_le _, rfl, rfl, Lib.hid ⟨HO2.out, HL2.out⟩, Touch.refl _ _⟩
  obtain ⟨x, oa, ol, oc, hx, rfl, rfl, HR, hto⟩ := hrel
  have HT := Lib.hid hto
  clear hto HO2 HL2
  by_cases hlt : x < nn
  · obtain ⟨q, hq⟩ : ∃ q, N[x]? = some q := ⟨N[x]'(by have := HNN.out; omega), List.getElem?_eq_getElem _⟩
    have HTK := Lib.hid (take_next hq)
    have HQO := Lib.hid (HOK.out q (List.mem_of_getElem? hq))
    have hnear : ∀ b, B1 ≤ b → b < B2 → ¬ Outs w.heap.size B1 B2 b := fun b h1 h2 h => by unfold Outs at h; omega
    have HKG := Lib.hid (fun w' (ht : Touch (Outs w.heap.size B1 B2) w2 w') => NGL.keep HNG.out HNB.out HB.out.2 ht hnear)
    have hel := fun w' ht => NL.el (NGL.nl (HKG.out w' ht)) hq
    obtain ⟨nb, off, ka, kc, ua, uc, rfl, hnb, ⟨c0, c1, c2, c3, c4, c5⟩, hbk, hbu⟩ := hel _ HT.out
    have HST := Lib.hid (show ∀ w', Touch (Outs w.heap.size B1 B2) w2 w' → w'.cell? ⟨nb, off + x * 6, none⟩ = some (.slice ka q.k.length kc) ∧ w'.cell? ⟨nb, off + x * 6 + 1, none⟩ = some (.slice ua q.u.length uc) ∧ Hid (Touch (Outs w.heap.size B1 B2) w2 w') from fun w' ht => by
      have hnb2 : nb < w2.heap.size := by
        obtain ⟨b', off', _, _, _, _, e, hb, _⟩ := NL.el (NGL.nl HNG.out) hq
        cases e; exact hb
      have hfar : ¬ Outs w.heap.size B1 B2 nb := hnear nb (HNB.out nb rfl) (by have := HB.out.2; omega)
      obtain ⟨b', off', ka', kc', ua', uc', e, _, ⟨d0, d1, _⟩, _⟩ := NL.el (NGL.nl HNG.out) hq
      cases e
      have g0 := (HT.out.cell hnb2 hfar (off + x * 6)).trans d0
      have g1 := (HT.out.cell hnb2 hfar (off + x * 6 + 1)).trans d1
      rw [c0] at g0
      rw [c1] at g1
      cases g0
      cases g1
      exact ⟨(ht.cell hnb2 hfar _).trans d0, (ht.cell hnb2 hfar _).trans d1, Lib.hid ht⟩)
    have HBV := Lib.hid (show ∀ w', Touch (Outs w.heap.size B1 B2) w2 w' → BV w' (.slice ka q.k.length kc) q.k ∧ BV w' (.slice ua q.u.length uc) q.u from fun w' ht => by
      obtain ⟨b', off', ka', kc', ua', uc', e, _, ⟨d0, d1, _⟩, k1, k2⟩ := hel w' ht
      cases e
      rw [(HST.out w' ht).1] at d0
      rw [(HST.out w' ht).2.1] at d1
      cases d0
      cases d1
      exact ⟨k1, k2⟩)
    have HLT := Lib.hid (show (leB ln 4 ++ imgN (N.take x)).length ≤ 110000000 from by
      have h1 := imgN_len (N := N.take x) fun y hy => HOK.out y (List.mem_of_mem_take hy)
      rw [List.length_append, leB_len]
      have h2 : (N.take x).length ≤ x := List.length_take_le _ _
      omega)
    obtain ⟨lv, elv⟩ : ∃ lv, q.l = lv := ⟨_, rfl⟩
    obtain ⟨rv, erv⟩ : ∃ rv, q.r = rv := ⟨_, rfl⟩
    obtain ⟨k1, ek1⟩ : ∃ k1 : Nat, (if (0 : Int) ≤ lv then 1 else 0) = k1 := ⟨_, rfl⟩
    obtain ⟨c, ec⟩ : ∃ c : Nat, k1 + (if (0 : Int) ≤ rv then 2 else 0) = c := ⟨_, rfl⟩
    rw [elv] at c4
    rw [erv] at c5
    have HCH := Lib.hid (show chN q = c from by rw [← ec, ← ek1, ← elv, ← erv]; rfl)
    have HK1 := Lib.hid ek1
    have HC := Lib.hid ec
    have hk1 : k1 ≤ 1 := by rw [← ek1]; split <;> omega
    have hc3 : c ≤ 3 := by rw [← ec]; split <;> omega
    have HBU := Lib.hid hbu
    have HQL := Lib.hid (show q.k.length ≤ 64 ∧ q.u.length ≤ 1000 from HQO.out.2)
    have i1 : (x : Int) < (nn : Int) := by omega
    have i2 : (0 : Int) ≤ (x : Int) := by omega
    have HKL : Hid (∃ n, q.k.length = n) := Lib.hid ⟨_, rfl⟩
    obtain ⟨kl, ekl⟩ := HKL.out
    obtain ⟨ul, eul⟩ : ∃ n, q.u.length = n := ⟨_, rfl⟩
    simp only [ekl, eul] at HST HBV HQL c0 c1
    clear HKL hel hbk hbu HBU elv erv ek1 ec hnb c2 c3
    go_upto_if 27 with fail
    go_cut [8] (fun s8 wx => s8 = .int .u8 (k1 : Int) ∧ wr = wx)
    case first =>
      by_cases hl : 0 ≤ lv
      · have d1 : decide ((0 : Int) ≤ lv) = true := decide_eq_true hl
        obtain rfl : k1 = 1 := by rw [← HK1.out, if_pos hl]
        go_wp2_with fail
        go_meet
        exact ⟨rfl, rfl⟩
      · have d1 : decide ((0 : Int) ≤ lv) = false := decide_eq_false hl
        obtain rfl : k1 = 0 := by rw [← HK1.out, if_neg hl]
        go_wp2_with fail
        go_meet
        exact ⟨rfl, rfl⟩
    case rest =>
    obtain ⟨rfl, rfl⟩ := hcut
    go_upto_if 35 with fail
    go_cut [8] (fun s8 wx => s8 = .int .u8 (c : Int) ∧ wr = wx)
    case first =>
      by_cases hl : 0 ≤ rv
      · have d1 : decide ((0 : Int) ≤ rv) = true := decide_eq_true hl
        obtain rfl : c = k1 + 2 := by rw [← HC.out, if_pos hl]
        have hw : IntKind.u8.wrap ((k1 : Int) + 2) = ((k1 + 2 : Nat) : Int) := by rw [wrap_u8]; omega
        have hw2 : ((k1 : Int) + 2) % 256 = ((k1 + 2 : Nat) : Int) := by omega
        go_wp2_with fail
        go_meet
        exact ⟨by first | rfl | (rw [hw]) | (rw [hw2]) | (congr 1), rfl⟩
      · have d1 : decide ((0 : Int) ≤ rv) = false := decide_eq_false hl
        obtain rfl : c = k1 := by rw [← HC.out, if_neg hl]; rfl
        go_wp2_with fail
        go_meet
        exact ⟨rfl, rfl⟩
    case rest =>
    obtain ⟨rfl, rfl⟩ := hcut
    have HOA := Lib.hid (HR.out.1.keep ((Touch.refl Nil wr).alloc (.cells #[.int .u8 (c : Int)] 5)) fun _ _ c => c)
    have HLIT := Lib.hid (own_lit wr [lo c] _ (one_lit c hc3) (by simp)).bv
    have HTA := Lib.hid (HT.out.alloc (.cells #[.int .u8 (c : Int)] 5))
    have HSA := Lib.hid (show w.heap.size ≤ (wr.alloc (.cells #[.int .u8 (c : Int)] 5)).heap.size ∧ B2 ≤ (wr.alloc (.cells #[.int .u8 (c : Int)] 5)).heap.size from by have h1 := HB12.out; have h2 := HB.out.2; have h3 := HTA.out.size; omega)
    go_wp2_with (refine wpList_append_bytesF rfl (.tmp 38) (.tmp 40) rfl w.heap.size (.slice oa ol oc) (.slice (some ⟨wr.heap.size, 0, none⟩) 1 1) (leB ln 4 ++ imgN (N.take x)) [lo c] ?f1 ?f2 ?f3 ?f4 ?f5 ?f6 ?f7 ?f8)
    case f2 => exact HOA.out
    case f1 => rfl
    case f3 => rfl
    case f4 => exact HLIT.out
    case f5 => simp
    case f6 => have := HLT.out; simp only [List.length_cons, List.length_nil]; omega
    case f7 => exact HSA.out.1
    intro g5 n5 cap5 w5 ho5 ht5 hf5
    have HO5 := Lib.hid (show OwnB w.heap.size w5 (.slice (some ⟨g5, 0, none⟩) n5 cap5) (leB ln 4 ++ imgN (N.take x) ++ [lo c]) from by first | exact ho5.out | simpa [List.append_assoc] using ho5.out)
    have HG5 := Lib.hid (show g5 < B1 ∨ B2 ≤ g5 from by
      rcases hf5.out with h | h
      · exact HR.out.2 g5 h
      · right; exact Nat.le_trans HSA.out.2 (by rw [nblk_alloc]; exact h))
    have HT5 := Lib.hid (show Touch (Outs w.heap.size B1 B2) w2 w5 from HTA.out.trans (ht5.out.mono fun b _ hs => ⟨(HOA.out.block b hs).1, HR.out.2 b hs⟩))
    have HL5 := Lib.hid (show (leB ln 4 ++ imgN (N.take x) ++ [lo c]).length ≤ 110000001 from by have := HLT.out; rw [List.length_append]; simp only [List.length_cons, List.length_nil]; omega)
    have HTD := Lib.hid (show ∀ w', Touch (Outs w.heap.size B1 B2) w2 w' → Calls Try.prog 102 #[.slice ka kl kc, .slice ua ul uc] w' (ClonePost (toldK q.k q.u) w') from fun w' ht => toldR_any (HBV.out w' ht).1 (HBV.out w' ht).2 (by have := HQL.out.1; omega) (by have := HQL.out.2; omega))
    have HNE := Lib.hid (show toldK q.k q.u ≠ [] from fun h => by have := toldK_len q.k q.u; rw [h] at this; simp at this; omega)
    have HTL := Lib.hid (show (toldK q.k q.u).length ≤ 1067 from by have := toldK_len q.k q.u; have := HQL.out; omega)
    clear ho5 ht5 hf5 c0 c1 c4 c5 HOA HLIT HTA
    go_upto_region 12 with fail
    go_region_held3 (fun w' => w'.cell? ⟨nb, off + x * 6, none⟩ = some (.slice ka kl kc) ∧ w'.cell? ⟨nb, off + x * 6 + 1, none⟩ = some (.slice ua ul uc) ∧ Hid (Touch (Outs w.heap.size B1 B2) w2 w'))
      (first | (with_reducible exact HST.out _ HT5.out.drew) | (with_reducible exact HST.out _ hT7) | (with_reducible exact HST.out _ hT6))
      (first
        | (go_at_call_of 102 (Value.slice ka kl kc); refine (HTD.out _ HT5.out.drew).mono ?_; rintro e w6 ⟨v6, rfl, h6, ht6⟩; obtain ⟨va6, vl6, vc6, rfl⟩ := h6.form; have hT6 : Touch (Outs w.heap.size B1 B2) w2 w6 := HT5.out.drew.trans ht6.of_nil; have HV6 := Lib.hid h6.bv; have HO6 := Lib.hid (HO5.out.keep ((Touch.refl Nil w5).drew.trans ht6) fun _ _ c => c); clear h6 ht6)
        | (refine step_append_bytesF rfl (.tmp 42) (.tmp 53) rfl w.heap.size (.slice (some ⟨g5, 0, none⟩) n5 cap5) (.slice va6 vl6 vc6) (leB ln 4 ++ imgN (N.take x) ++ [lo c]) (toldK q.k q.u) rfl HO6.out rfl HV6.out HNE.out (by have := HL5.out; have := HTL.out; omega) (by have h1 := hT6.size; have h2 := HB12.out; have h3 := HB.out.2; omega) ?_; intro g7 n7 cap7 w7 ho7 ht7 hf7; have hT7 : Touch (Outs w.heap.size B1 B2) w2 w7 := hT6.trans (ht7.out.mono fun b _ hs => ⟨(HO6.out.block b hs).1, by have hs : b = g5 := by {simpa [OwnOf, Value.ownBlock] using hs}; rw [hs]; exact HG5.out⟩); have HO7 := ho7; have HF7 := Lib.hid (show g7 < B1 ∨ B2 ≤ g7 from hf7.out.elim (fun h => by {have h : g7 = g5 := by {simpa [OwnOf, Value.ownBlock] using h}; rw [h]; exact HG5.out}) (fun h => .inr (by {have h1 := hT6.size; have h3 := HB.out.2; omega}))); clear ho7 ht7 hf7))
    have HT7 := Lib.hid hT7
    rename_i hHeldX
    clear hHeldX hT7 hT6 HST
    go_wp2_with fail
    go_roundw
    case rel => exact ⟨x + 1, some ⟨g7, 0, none⟩, n7, cap7, by omega, rfl, by go_num, Lib.hid ⟨by
      rw [HTK.out, imgN_app, show imgN [q] = lo c :: toldK q.k q.u from by simp [imgN, HCH.out]]
      have h := HO7.out
      first
        | simpa [List.append_assoc] using h
        | (rw [show leB ln 4 ++ (imgN (N.take x) ++ lo c :: toldK q.k q.u) = leB ln 4 ++ imgN (N.take x) ++ [lo c] ++ toldK q.k q.u from by simp]; exact h), fun b hb => by
      have hb : b = g7 := by simpa [OwnOf, Value.ownBlock] using hb
      rw [hb]; exact HF7.out⟩, HT7.out⟩
    case measure => simp [intOf] <;> omega
  · obtain rfl : x = nn := by omega
    have HF := Lib.hid (show N.take x = N from List.take_of_length_le (by have := HNN.out; omega))
    go_wp2_with fail
    go_ret
    exact ⟨_, rfl, by rw [HIM.out]; have h := HR.out.1; rw [HF.out] at h; exact h, HT2.out.trans' HT.out fun b hb hs => by have := hs.1; omega⟩
end Go.Proofs.Ytkkpcndpjkebkaa
