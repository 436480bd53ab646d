import Derived.Test.YtkkpcndpjkebkaaReader
import Derived.Test.YtkkpcndpjkebkaaImgP
import Derived.Test.YtkkpcndpjkebkaaLawP
/- The mathematics of Load: which bytes are a tree's. -/
namespace Go.Proofs.Ytkkpcndpjkebkaa
open Go.ChangeShapes Go.WideShapes Go.ChangeAt Go.RowKit Go.Deep

/-- The last key of a tree, or what was the last one ahead of it. -/
def lastK : Tree → Key → Key
  | .nil, last => last
  | .node _ k _ r, _ => lastK r k
theorem lastK_mem : ∀ (t : Tree) (last : Key), lastK t last = last ∨ ∃ x ∈ t.toL, x.1 = lastK t last
  | .nil, _ => .inl rfl
  | .node l k u r, last => by
    right
    show ∃ x ∈ l.toL ++ (k, u) :: r.toL, x.1 = lastK r k
    rcases lastK_mem r k with e | ⟨x, hx, e⟩
    · exact ⟨(k, u), by simp, e.symm⟩
    · exact ⟨x, by simp [hx], e⟩
theorem lastK_ge : ∀ (t : Tree) (last : Key), Srt t.toL → ∀ x ∈ t.toL, x.1 = lastK t last ∨ klt x.1 (lastK t last) = true
  | .nil, _, _ => by simp [Tree.toL]
  | .node l k u r, last, hs => by
    obtain ⟨s1, s2, a1, a2⟩ := srt_node.1 hs
    have hk : k = lastK r k ∨ klt k (lastK r k) = true := by
      rcases lastK_mem r k with e | ⟨x, hx, e⟩
      · exact .inl e.symm
      · exact .inr (by rw [← e]; exact a2 x hx)
    intro x hx
    show x.1 = lastK r k ∨ klt x.1 (lastK r k) = true
    simp only [Tree.toL, List.mem_append, List.mem_cons] at hx
    rcases hx with hx | rfl | hx
    · right
      rcases hk with e | e
      · rw [← e]; exact a1 x hx
      · exact klt_ko.trans _ _ _ (a1 x hx) e
    · exact hk
    · exact lastK_ge r k s2 x hx
def Tree.there : Tree → Bool
  | .nil => false
  | .node _ _ _ _ => true
theorem childN_there (l r : Tree) : (childN l r % 2 == 1) = l.there ∧ decide (2 ≤ childN l r) = r.there := by
  cases l <;> cases r <;> simp [childN, Tree.there]
theorem lo_small {n : Nat} (h : n < 256) : (lo n).toNat = n := by rw [lo_nat]; omega
theorem parseI_told {l r : Tree} {k u rest : Key} (h : okK k u) : parseI ((lo (childN l r) :: toldK k u) ++ rest) = some (lo (childN l r), k, u, rest) := by
  obtain ⟨h1, h2, h3⟩ := h
  have hc := childN_le l r
  have e : (lo (childN l r) :: toldK k u) ++ rest = lo (childN l r) :: lo k.length :: lo u.length :: lo (u.length / 256) :: (k ++ u ++ rest) := by
    simp [toldK, leB]
  rw [e]
  have f1 : (lo k.length).toNat = k.length := lo_small (by omega)
  have f2 : (lo u.length).toNat + 256 * (lo (u.length / 256)).toNat = u.length := by rw [lo_nat, lo_nat]; omega
  have f0 : (lo (childN l r)).toNat = childN l r := lo_small (by omega)
  unfold parseI
  simp only [List.getD_eq_getElem?_getD, List.getElem?_cons_zero, List.getElem?_cons_succ, Option.getD_some, List.drop_succ_cons, List.drop_zero, f1, f2, f0]
  have ha : allowB k.length u.length = true := okK_iff.2 ⟨h1, h2, h3⟩
  rw [if_neg (by simp only [List.length_cons]; omega), if_neg (by omega), if_neg (by simp only [List.length_append]; omega), if_neg (by rw [ha]; simp)]
  have g1 : (k ++ u ++ rest).take k.length = k := by rw [List.append_assoc, List.take_left']; rfl
  have g2 : (k ++ u ++ rest).take (k.length + u.length) = k ++ u := by rw [List.take_left']; simp
  have g3 : (k ++ u ++ rest).drop (k.length + u.length) = rest := by rw [List.drop_left']; simp
  rw [g1, g2, g3, List.drop_left']
  rfl
/-- A tree is read from its own bytes. -/
theorem parse_back (seed : Int) : ∀ (t : Tree) {n : Nat} {top : Option Key} {last rest : Key}, Srt t.toL → t.Heap (abv seed) → OkL' t → (∀ x ∈ t.toL, topB seed top x.1 = true) → (∀ x ∈ t.toL, klt last x.1 = true) → t.size ≤ n → parseT seed n top t.there last (imgT t ++ rest) = some (t, lastK t last, rest)
  | .nil, n, top, last, rest, _, _, _, _, _, _ => by cases n <;> simp [Tree.there, parseT, lastK, imgT]
  | .node l k u r, 0, top, last, rest, _, _, _, _, _, h => by simp [Tree.size] at h
  | .node l k u r, n + 1, top, last, rest, hs, hh, ho, ht, hl, hz => by
    obtain ⟨s1, s2, a1, a2⟩ := srt_node.1 hs
    have e : imgT (.node l k u r) ++ rest = (lo (childN l r) :: toldK k u) ++ (imgT l ++ (imgT r ++ rest)) := by simp [imgT, List.append_assoc]
    have hlast : klt (lastK l last) k = true := by
      rcases lastK_mem l last with e | ⟨x, hx, e⟩
      · rw [e]; exact hl (k, u) (by simp [Tree.toL])
      · rw [← e]; exact a1 x hx
    have hsz : l.size + 1 + r.size ≤ n + 1 := hz
    rw [e]
    show parseT seed (n + 1) top true last _ = _
    have hc := childN_le l r
    obtain ⟨c1, c2⟩ := childN_there l r
    unfold parseT
    rw [parseI_told ho.1]
    simp only [lo_small (show childN l r < 256 by omega), c1, c2]
    rw [if_neg (by rw [ht (k, u) (by simp [Tree.toL])]; simp), parse_back seed l (top := some k) s1 hh.2.2.1 ho.2.1 (fun x hx => hh.1 x hx) (fun x hx => hl x (by simp [Tree.toL, hx])) (by omega)]
    simp only []
    rw [if_neg (by rw [hlast]; simp), parse_back seed r (top := some k) s2 hh.2.2.2 ho.2.2 (fun x hx => hh.2.1 x hx) (fun x hx => a2 x hx) (by omega)]
    rfl
theorem lo_toNat (c : UInt8) : lo c.toNat = c := UInt8.toNat_inj.1 (by rw [lo_nat]; have := c.toNat_lt; omega)
/-- What is read is the bytes of a tree that stands as a map's does. -/
theorem parse_sound (seed : Int) : ∀ (n : Nat) {top : Option Key} {b : Bool} {last l last' l' : Key} {t : Tree}, parseT seed n top b last l = some (t, last', l') → b = t.there ∧ l = imgT t ++ l' ∧ last' = lastK t last ∧ Srt t.toL ∧ t.Heap (abv seed) ∧ OkL' t ∧ (∀ x ∈ t.toL, topB seed top x.1 = true) ∧ ∀ x ∈ t.toL, klt last x.1 = true := by
  have hnil : ∀ {b : Bool} {top : Option Key} {last l last' l' : Key} {t : Tree}, b = false → some (Tree.nil, last, l) = some (t, last', l') → b = t.there ∧ l = imgT t ++ l' ∧ last' = lastK t last ∧ Srt t.toL ∧ t.Heap (abv seed) ∧ OkL' t ∧ (∀ x ∈ t.toL, topB seed top x.1 = true) ∧ ∀ x ∈ t.toL, klt last x.1 = true := by
    intro b top last l last' l' t hb h
    simp only [Option.some.injEq, Prod.mk.injEq] at h
    obtain ⟨rfl, rfl, rfl⟩ := h
    exact ⟨hb, rfl, rfl, srt_nil, trivial, trivial, by simp [Tree.toL], by simp [Tree.toL]⟩
  intro n
  induction n with
  | zero =>
    intro top b last l last' l' t h
    cases b with
    | false => simp only [parseT] at h; exact hnil rfl h
    | true => simp [parseT] at h
  | succ n ih =>
    intro top b last l last' l' t h
    cases b with
    | false => simp only [parseT] at h; exact hnil rfl h
    | true =>
      unfold parseT at h
      split at h
      · cases h
      next c k u l1 hi =>
      obtain ⟨hok, hc3, hp⟩ := parseI_some hi
      split at h
      · cases h
      next htop =>
      split at h
      · cases h
      next tl last2 l2 h1 =>
      split at h
      · cases h
      next hlk =>
      split at h
      · cases h
      next tr last3 l3 h2 =>
      simp only [Option.some.injEq, Prod.mk.injEq] at h
      obtain ⟨rfl, rfl, rfl⟩ := h
      have htop : topB seed top k = true := by simpa using htop
      have hlk : klt last2 k = true := by simpa using hlk
      obtain ⟨b1, e1, f1, s1, p1, o1, t1, k1⟩ := ih h1
      obtain ⟨b2, e2, f2, s2, p2, o2, t2, k2⟩ := ih h2
      have ak : ∀ x ∈ tl.toL, klt x.1 k = true := fun x hx => by
        rcases lastK_ge tl last s1 x hx with e | e
        · rw [e, ← f1]; exact hlk
        · rw [← f1] at e; exact klt_ko.trans _ _ _ e hlk
      have lk : klt last k = true := by
        rcases lastK_mem tl last with e | ⟨x, hx, e⟩
        · rw [← e, ← f1]; exact hlk
        · exact klt_ko.trans _ _ _ (k1 x hx) (ak x hx)
      have htt : ∀ y, abv seed k y = true → topB seed top y = true := fun y hy => by
        cases top with
        | none => rfl
        | some p => exact (abv_ko seed).trans _ _ _ htop hy
      refine ⟨rfl, ?_, f2, srt_node.2 ⟨s1, s2, ak, k2⟩, ⟨t1, t2, p1, p2⟩, ⟨hok, o1, o2⟩, ?_, ?_⟩
      · have hcn : c = lo (childN tl tr) := by
          have hcc : c.toNat = childN tl tr := by
            have g1 : (c.toNat % 2 == 1) = tl.there := b1
            have g2 : decide (2 ≤ c.toNat) = tr.there := b2
            have hcc : c.toNat = 0 ∨ c.toNat = 1 ∨ c.toNat = 2 ∨ c.toNat = 3 := by omega
            cases tl <;> cases tr <;> rcases hcc with e | e | e | e <;> rw [e] at g1 g2 ⊢ <;> simp [Tree.there, childN] at g1 g2 ⊢
          rw [← hcc, lo_toNat]
        rw [hp, e1, e2, hcn]
        simp [imgT, toldK, leB, List.append_assoc]
      · intro x hx
        simp only [Tree.toL, List.mem_append, List.mem_cons] at hx
        rcases hx with hx | rfl | hx
        · exact htt _ (t1 x hx)
        · exact htop
        · exact htt _ (t2 x hx)
      · intro x hx
        simp only [Tree.toL, List.mem_append, List.mem_cons] at hx
        rcases hx with hx | rfl | hx
        · exact k1 x hx
        · exact lk
        · exact klt_ko.trans _ _ _ lk (k2 x hx)
/-- Bytes are the image of a map with this tree. -/
def IsI (seed : Int) (l : Key) (t : Tree) : Prop := Srt t.toL ∧ t.Heap (abv seed) ∧ OkL' t ∧ t.size ≤ 100000 ∧ l = imgB t
/-- What Load makes of bytes. -/
def loadF (seed : Int) (l : Key) : Option Tree :=
  if l.length < 4 then none
  else if 100000 < numN (l.take 4) then none
  else match parseT seed l.length none (decide (0 < numN (l.take 4))) [] (l.drop 4) with
    | none => none
    | some (t, _, l') => if t.size = numN (l.take 4) ∧ l' = [] then some t else none
theorem numN_leB (x : Nat) : ∀ n, numN (leB x n) = x % 256 ^ n
  | 0 => by simp [leB, numN]; omega
  | n + 1 => by
    rw [leB, numN_snoc, numN_leB x n, leB_len, lo_nat, Nat.pow_succ, Nat.mod_mul, Nat.mul_comm]
theorem leB_numN : ∀ l : Key, leB (numN l) l.length = l := by
  suffices h : ∀ (n : Nat) (l : Key), l.length = n → leB (numN l) n = l from fun l => h _ l rfl
  intro n
  induction n with
  | zero => intro l h; simp [leB, List.length_eq_zero_iff.1 h]
  | succ n ih =>
    intro l h
    have hne : l ≠ [] := by rintro rfl; cases h
    obtain ⟨l', x, rfl⟩ : ∃ l' x, l = l' ++ [x] := ⟨_, _, (List.dropLast_concat_getLast hne).symm⟩
    have hl : l'.length = n := by simpa using h
    have hb := numN_lt l'
    have hx : ∀ m, leB (numN l' + 256 ^ n * m) n = leB (numN l') n := by
      intro m
      have g : ∀ (j a b : Nat), a % 256 ^ j = b % 256 ^ j → leB a j = leB b j := by
        intro j
        induction j with
        | zero => intro a b _; rfl
        | succ j ihj =>
          intro a b hab
          rw [Nat.pow_succ, Nat.mod_mul, Nat.mod_mul] at hab
          have hpos : 0 < 256 ^ j := Nat.pow_pos (by omega)
          have hm1 : a % 256 ^ j < 256 ^ j := Nat.mod_lt _ hpos
          have hm2 : b % 256 ^ j < 256 ^ j := Nat.mod_lt _ hpos
          have e1 : a % 256 ^ j = b % 256 ^ j := by
            have := congrArg (· % 256 ^ j) hab
            simp only [Nat.add_mul_mod_self_left, Nat.mod_eq_of_lt hm1, Nat.mod_eq_of_lt hm2] at this
            exact this
          have e2 : a / 256 ^ j % 256 = b / 256 ^ j % 256 := by
            rw [e1] at hab
            exact Nat.eq_of_mul_eq_mul_left hpos (by omega)
          rw [leB, leB, ihj a b e1]
          congr 2
          exact UInt8.toNat_inj.1 (by rw [lo_nat, lo_nat, e2])
      exact g n _ _ (by rw [Nat.add_mul_mod_self_left])
    rw [numN_snoc, hl, leB, hx, ih l' hl]
    congr 2
    refine UInt8.toNat_inj.1 ?_
    rw [lo_nat, Nat.add_mul_div_left _ _ (Nat.pow_pos (by omega)), Nat.div_eq_of_lt (by rw [← hl]; exact hb), Nat.zero_add]
    have := x.toNat_lt
    omega
theorem imgB_head (t : Tree) (h : t.size ≤ 100000) : 4 ≤ (imgB t).length ∧ numN ((imgB t).take 4) = t.size ∧ (imgB t).drop 4 = imgT t := by
  have hl : (leB t.size 4).length = 4 := leB_len _ _
  refine ⟨by simp [imgB, hl], ?_, ?_⟩
  · unfold imgB
    rw [List.take_left' hl, numN_leB]
    omega
  · unfold imgB
    rw [List.drop_left' hl]
theorem imgT_size : ∀ t : Tree, t.size ≤ (imgT t).length
  | .nil => by simp [Tree.size]
  | .node l k u r => by
    have h1 := imgT_size l
    have h2 := imgT_size r
    simp only [Tree.size, imgT, List.length_append, List.length_cons]
    omega
theorem there_iff (t : Tree) : t.there = decide (0 < t.size) := by
  cases t with
  | nil => rfl
  | node l k u r => exact (decide_eq_true (show 0 < l.size + 1 + r.size by omega)).symm
theorem loadF_iff {seed : Int} {l : Key} {t : Tree} : loadF seed l = some t ↔ IsI seed l t := by
  constructor
  · intro h
    unfold loadF at h
    split at h
    · cases h
    next h4 =>
    split at h
    · cases h
    next hc =>
    split at h
    · cases h
    next t' last' l' hp =>
    split at h
    next hz =>
      cases h
      obtain ⟨hb, hl, _, hs, hh, ho, _, _⟩ := parse_sound seed _ hp
      refine ⟨hs, hh, ho, by omega, ?_⟩
      rw [hz.2, List.append_nil] at hl
      unfold imgB
      rw [hz.1, ← hl]
      have hlen : (l.take 4).length = 4 := by rw [List.length_take]; omega
      have := leB_numN (l.take 4)
      rw [hlen] at this
      rw [this, List.take_append_drop]
    · cases h
  · rintro ⟨hs, hh, ho, hz, rfl⟩
    obtain ⟨h1, h2, h3⟩ := imgB_head t hz
    unfold loadF
    rw [if_neg (by omega), h2, if_neg (by omega), h3, ← there_iff]
    have hne : ∀ {t : Tree}, OkL' t → ∀ x ∈ t.toL, okK x.1 x.2 := by
      intro t
      induction t with
      | nil => intro _ x hx; simp [Tree.toL] at hx
      | node l k u r i1 i2 =>
        intro h x hx
        simp only [Tree.toL, List.mem_append, List.mem_cons] at hx
        rcases hx with hx | rfl | hx
        · exact i1 h.2.1 x hx
        · exact h.1
        · exact i2 h.2.2 x hx
    have hlast : ∀ x ∈ t.toL, klt [] x.1 = true := fun x hx => by
      have h1 := (hne ho x hx).1
      unfold klt
      cases hx1 : x.1 with
      | nil => rw [hx1] at h1; simp at h1
      | cons a b => rfl
    have hlen : t.size ≤ (imgB t).length := by
      have g1 := imgT_size t
      have g2 : (imgB t).length = 4 + (imgT t).length := by simp [imgB, leB_len]
      omega
    have hp := parse_back seed t (n := (imgB t).length) (top := none) (last := []) (rest := []) hs hh ho (fun _ _ => rfl) hlast hlen
    rw [List.append_nil] at hp
    rw [hp]
    simp
theorem imgB_inj {t t' : Tree} {seed : Int} (h : IsI seed (imgB t) t') (h' : IsI seed (imgB t) t) : t = t' := by
  have := loadF_iff.2 h
  rw [loadF_iff.2 h'] at this
  cases this
  rfl
end Go.Proofs.Ytkkpcndpjkebkaa

/- The mathematics of the definition's Load: what bytes list. -/
namespace Go.Proofs.Ytkkpcndpjkebkaa
open Go.ChangeShapes Go.WideShapes Go.ChangeAt Go.RowKit Go.Deep

/-- The pairs that bytes list. -/
def listF : Nat → Key → Option Pairs
  | _, [] => some []
  | 0, _ :: _ => none
  | n + 1, a :: l =>
    if (a :: l).length < 4 then none
    else if ((a :: l).drop 4).length < ((a :: l).getD 1 0).toNat + numN (((a :: l).drop 2).take 2) then none
    else match listF n (((a :: l).drop 4).drop (((a :: l).getD 1 0).toNat + numN (((a :: l).drop 2).take 2))) with
      | none => none
      | some P => some ((((a :: l).drop 4).take ((a :: l).getD 1 0).toNat, (((a :: l).drop 4).drop ((a :: l).getD 1 0).toNat).take (numN (((a :: l).drop 2).take 2))) :: P)
theorem listF_step {n k v : Nat} {l d : Key} (h0 : 0 < l.length) (h4 : 4 ≤ l.length) (hk : (l.getD 1 0).toNat = k) (hv : numN ((l.drop 2).take 2) = v) (hd : l.drop 4 = d) :
    listF (n + 1) l = if d.length < k + v then none else match listF n (d.drop (k + v)) with
      | none => none
      | some P => some ((d.take k, (d.drop k).take v) :: P) := by
  cases l with
  | nil => simp at h0
  | cons a l =>
    subst hk hv hd
    rw [listF, if_neg (by omega)]
theorem listF_short {n : Nat} {l : Key} (h0 : 0 < l.length) (h4 : l.length < 4) : listF n l = none := by
  cases l with
  | nil => simp at h0
  | cons a l =>
    cases n with
    | zero => rfl
    | succ n => rw [listF, if_pos h4]
theorem listF_nil (n : Nat) : listF n [] = some [] := by cases n <;> rfl
/-- What the reference's list of an image is. -/
def listedF (l : Key) : Option Pairs := if l.length < 4 then none else listF l.length (l.drop 4)
/-- The pairs of a tree, each ahead of those below it. -/
def preT : Tree → Pairs
  | .nil => []
  | .node l k u r => (k, u) :: (preT l ++ preT r)
theorem preT_perm : ∀ t : Tree, (preT t).Perm t.toL
  | .nil => List.Perm.refl _
  | .node l k u r => ((List.Perm.append (preT_perm l) (preT_perm r)).cons (k, u)).trans List.perm_middle.symm
theorem preT_mem {t : Tree} {x : Key × Key} : x ∈ preT t ↔ x ∈ t.toL := (preT_perm t).mem_iff
theorem preT_len (t : Tree) : (preT t).length = t.size := by rw [(preT_perm t).length_eq, size_toL]
theorem srt_nodup {L : Pairs} (h : Srt L) : (L.map Prod.fst).Nodup := by
  unfold Srt at h
  rw [List.Nodup, List.pairwise_map]
  exact h.imp fun hab e => by rw [e, klt_ko.irrefl] at hab; cases hab
theorem preT_nodup {t : Tree} (h : Srt t.toL) : ((preT t).map Prod.fst).Nodup := ((preT_perm t).map Prod.fst).nodup_iff.2 (srt_nodup h)
theorem listF_told {n c : Nat} {k u rest : Key} (h : okK k u) : listF (n + 1) ((lo c :: toldK k u) ++ rest) = match listF n rest with
    | none => none
    | some P => some ((k, u) :: P) := by
  obtain ⟨h1, h2, h3⟩ := h
  have e : (lo c :: toldK k u) ++ rest = lo c :: lo k.length :: lo u.length :: lo (u.length / 256) :: (k ++ u ++ rest) := by simp [toldK, leB]
  have f1 : (lo k.length).toNat = k.length := lo_small (by omega)
  have f2 : numN [lo u.length, lo (u.length / 256)] = u.length := by simp only [numN]; rw [lo_nat, lo_nat]; omega
  rw [e, listF_step (d := k ++ u ++ rest) (k := k.length) (v := u.length) (by simp) (by simp) (by simpa using f1) (by simpa using f2) (by simp)]
  rw [if_neg (by simp only [List.length_append]; omega)]
  have g3 : (k ++ u ++ rest).drop (k.length + u.length) = rest := by rw [List.drop_left']; simp
  have g1 : (k ++ u ++ rest).take k.length = k := by rw [List.append_assoc, List.take_left']; rfl
  have g2 : ((k ++ u ++ rest).drop k.length).take u.length = u := by rw [List.append_assoc, List.drop_left' rfl, List.take_left' rfl]
  rw [g1, g2, g3]
theorem listF_img : ∀ (t : Tree) (n : Nat) (rest : Key), OkL' t → t.size ≤ n → listF n (imgT t ++ rest) = match listF (n - t.size) rest with
    | none => none
    | some P => some (preT t ++ P)
  | .nil, n, rest, _, _ => by
    simp only [imgT, List.nil_append, Tree.size, Nat.sub_zero, preT]
    cases listF n rest <;> rfl
  | .node l k u r, 0, rest, _, h => by simp [Tree.size] at h
  | .node l k u r, n + 1, rest, ho, h => by
    have hz : l.size + 1 + r.size ≤ n + 1 := h
    have e : imgT (.node l k u r) ++ rest = (lo (childN l r) :: toldK k u) ++ (imgT l ++ (imgT r ++ rest)) := by simp [imgT, List.append_assoc]
    rw [e, listF_told ho.1, listF_img l n _ ho.2.1 (by omega), listF_img r (n - l.size) rest ho.2.2 (by omega)]
    have hs : n + 1 - (Tree.node l k u r).size = n - l.size - r.size := by simp only [Tree.size]; omega
    rw [hs]
    cases listF (n - l.size - r.size) rest with
    | none => rfl
    | some P => simp [preT, List.append_assoc]
theorem listed_img {t : Tree} (ho : OkL' t) (hz : t.size ≤ 100000) : listedF (imgB t) = some (preT t) := by
  obtain ⟨h1, _, h3⟩ := imgB_head t hz
  unfold listedF
  rw [if_neg (by omega), h3]
  have hlen : t.size ≤ (imgB t).length := by
    have g1 := imgT_size t
    have g2 : (imgB t).length = 4 + (imgT t).length := by simp [imgB, leB_len]
    omega
  have h := listF_img t (imgB t).length [] ho hlen
  rw [List.append_nil, listF_nil] at h
  rw [h]
  simp
/-- The pairs that are listed are short, and not more than the bytes. -/
theorem listF_bd : ∀ (n : Nat) (l : Key) (P : Pairs), listF n l = some P → P.length ≤ l.length ∧ ∀ p ∈ P, p.1.length ≤ l.length ∧ p.2.length ≤ l.length
  | n, [], P, h => by rw [listF_nil] at h; cases h; simp
  | 0, a :: l, P, h => by cases h
  | n + 1, a :: l, P, h => by
    by_cases h4 : (a :: l).length < 4
    · rw [listF_short (by simp) h4] at h; cases h
    rw [listF_step (by simp) (by omega) rfl rfl rfl] at h
    split at h
    · cases h
    next hlt =>
    split at h
    · cases h
    next Q hq =>
    cases h
    obtain ⟨i1, i2⟩ := listF_bd n _ Q hq
    simp only [List.length_drop] at i1 i2 hlt
    refine ⟨by simp only [List.length_cons] at *; omega, fun p hp => ?_⟩
    rcases List.mem_cons.1 hp with rfl | hp
    · simp only [List.length_take, List.length_drop]; omega
    · have := i2 p hp; omega
theorem srt_ext2 : ∀ {L M : Pairs}, Srt L → Srt M → (∀ x, x ∈ L ↔ x ∈ M) → L = M
  | [], [], _, _, _ => rfl
  | [], m :: M, _, _, h => by have := (h m).2 (List.mem_cons_self ..); cases this
  | l :: L, [], _, _, h => by have := (h l).1 (List.mem_cons_self ..); cases this
  | l :: L, m :: M, h1, h2, h => by
    unfold Srt at h1 h2
    rw [List.pairwise_cons] at h1 h2
    have e : l = m := by
      rcases List.mem_cons.1 ((h l).1 (List.mem_cons_self ..)) with c | c
      · exact c
      · rcases List.mem_cons.1 ((h m).2 (List.mem_cons_self ..)) with d | d
        · exact d.symm
        · have := klt_ko.asym (h1.1 m d)
          rw [h2.1 l c] at this
          cases this
    subst e
    rw [srt_ext2 h1.2 h2.2 fun x => ⟨fun hx => ?_, fun hx => ?_⟩]
    · rcases List.mem_cons.1 ((h x).1 (List.mem_cons_of_mem _ hx)) with c | c
      · subst c
        have := h1.1 x hx
        rw [klt_ko.irrefl] at this
        cases this
      · exact c
    · rcases List.mem_cons.1 ((h x).2 (List.mem_cons_of_mem _ hx)) with c | c
      · subst c
        have := h2.1 x hx
        rw [klt_ko.irrefl] at this
        cases this
      · exact c
theorem insAll_iff : ∀ (n : Nat) {P : Pairs}, P.length = n → (P.map Prod.fst).Nodup → ∀ x, x ∈ insAll P [] ↔ x ∈ P := by
  intro n
  induction n with
  | zero => intro P h _ x; rw [List.length_eq_zero_iff.1 h]; simp [insAll]
  | succ n ih =>
    intro P h hn x
    have hne : P ≠ [] := by rintro rfl; cases h
    obtain ⟨Q, p, rfl⟩ : ∃ Q p, P = Q ++ [p] := ⟨_, _, (List.dropLast_concat_getLast hne).symm⟩
    rw [List.map_append, List.nodup_append] at hn
    rw [insAll_snoc, insL_mem, ih (by simpa using h) hn.1, List.mem_append, List.mem_singleton]
    constructor
    · rintro (h | ⟨h, _⟩)
      · exact .inr h
      · exact .inl h
    · rintro (h | h)
      · exact .inr ⟨h, fun e => hn.2.2 x.1 (List.mem_map_of_mem h) p.1 (by simp) e⟩
      · exact .inl h
/-- Every list in order has a tree. -/
theorem tree_ex (seed : Int) : ∀ {L : Pairs}, Srt L → ∃ t : Tree, t.Heap (abv seed) ∧ t.toL = L
  | [], _ => ⟨.nil, trivial, rfl⟩
  | p :: L, h => by
    have hp := h
    unfold Srt at hp
    rw [List.pairwise_cons] at hp
    obtain ⟨t, h1, rfl⟩ := tree_ex seed (L := L) hp.2
    refine ⟨insT (abv seed) p.1 p.2 t, ins_heap (abv_ko seed) p.1 p.2 hp.2 h1, ?_⟩
    rw [ins_toL (abv_ko seed) p.1 p.2 hp.2 h1]
    refine srt_ext2 (insL_srt _ _ hp.2) h fun x => ?_
    rw [insL_mem, List.mem_cons]
    constructor
    · rintro (h | h)
      · exact .inl h
      · exact .inr h.1
    · rintro (h | h)
      · exact .inl h
      · exact .inr ⟨h, fun e => by have := hp.1 x h; rw [e, klt_ko.irrefl] at this; cases this⟩
theorem okL_toL : ∀ {t : Tree}, OkL' t → OkL t.toL
  | .nil, _ => by intro p hp; simp [Tree.toL] at hp
  | .node l k u r, h => by
    intro p hp
    simp only [Tree.toL, List.mem_append, List.mem_cons] at hp
    rcases hp with hp | rfl | hp
    · exact okL_toL h.2.1 p hp
    · exact h.1
    · exact okL_toL h.2.2 p hp
theorem okL'_of : ∀ {t : Tree}, OkL t.toL → OkL' t
  | .nil, _ => trivial
  | .node l k u r, h => ⟨h (k, u) (by simp [Tree.toL]), okL'_of fun p hp => h p (by simp [Tree.toL, hp]), okL'_of fun p hp => h p (by simp [Tree.toL, hp])⟩
theorem preT_ins {t : Tree} (h : Srt t.toL) : insAll (preT t) [] = t.toL :=
  srt_ext2 (insAll_srt _ srt_nil) h fun x => by rw [insAll_iff _ rfl (preT_nodup h), preT_mem]
/-- The definition's Load agrees: of bytes that list these pairs. -/
theorem load_list {seed : Int} {l : Key} {P : Pairs} (hP : listedF l = some P) {t : Tree} (ht : t.Heap (abv seed)) (hL : t.toL = insAll P []) (hok : OkL P) (hz : P.length ≤ 100000) :
    loadF seed l = if imgB t = l then some t else none := by
  have hs : Srt t.toL := by rw [hL]; exact insAll_srt _ srt_nil
  split
  next h =>
    rw [loadF_iff]
    refine ⟨hs, ht, okL'_of (by rw [hL]; exact OkL.ins hok (fun p hp => by cases hp)), ?_, h.symm⟩
    rw [size_toL, hL]
    have := insAll_len P []
    simp at this
    omega
  next h =>
    cases hq : loadF seed l with
    | none => rfl
    | some t' =>
      exfalso
      obtain ⟨h1, h2, h3, h4, h5⟩ := loadF_iff.1 hq
      rw [h5, listed_img h3 h4] at hP
      cases hP
      rw [preT_ins h1] at hL
      have := tree_unique (abv_ko seed) ht h2 hL hs
      rw [this] at h
      exact h h5.symm
theorem load_not {seed : Int} {l : Key} {P : Pairs} (hP : listedF l = some P) (h : loadF seed l ≠ none) : P.length = numN (l.take 4) ∧ P.length ≤ 100000 ∧ OkL P ∧ (P.map Prod.fst).Nodup := by
  cases hq : loadF seed l with
  | none => exact absurd hq h
  | some t =>
    obtain ⟨h1, h2, h3, h4, h5⟩ := loadF_iff.1 hq
    obtain ⟨_, g2, _⟩ := imgB_head t h4
    rw [h5, listed_img h3 h4] at hP
    cases hP
    rw [h5, g2, preT_len]
    exact ⟨rfl, h4, fun p hp => okL_toL h3 p (preT_mem.1 hp), preT_nodup h1⟩
theorem load_unlisted {seed : Int} {l : Key} (hP : listedF l = none) : loadF seed l = none := by
  cases hq : loadF seed l with
  | none => rfl
  | some t =>
    obtain ⟨h1, h2, h3, h4, h5⟩ := loadF_iff.1 hq
    rw [h5, listed_img h3 h4] at hP
    cases hP
end Go.Proofs.Ytkkpcndpjkebkaa
