import Derived.Test.YtejiijbmmpahhaaPart
import Derived.Test.YtejiijbmmpahhaaRefP
/- The digest of a span. -/
namespace Go.Proofs.Ytejiijbmmpahhaa
open Go.ChangeShapes Go.WideShapes Go.ChangeAt Go.RowKit Go.Deep

/-! ### Mathematics -/
theorem rankF_zero (key : Key) : ∀ {L : Pairs}, (∀ y ∈ L, klt y.1 key = false) → rankF key L = 0
  | [], _ => rfl
  | p :: L, h => by simp [rankF, h p (by simp)]
theorem rankF_drop (key : Key) : ∀ {L : Pairs}, Srt L → ∀ x, rankF key (L.drop x) = rankF key L - x
  | L, _, 0 => by simp
  | [], _, x + 1 => by simp [rankF]
  | p :: L, hs, x + 1 => by
    unfold Srt at hs
    rw [List.pairwise_cons] at hs
    have ih := rankF_drop key (L := L) hs.2 x
    rw [List.drop_succ_cons, ih]
    cases c : klt p.1 key with
    | true => simp only [rankF, c, if_true]; omega
    | false =>
      have h0 : rankF key L = 0 := rankF_zero key fun y hy => by
        rcases klt_false.1 c with e | e
        · rw [← e]; exact klt_ko.asym (hs.1 y hy)
        · exact klt_ko.asym (klt_ko.trans _ _ _ e (hs.1 y hy))
      simp only [rankF, c]
      rw [h0]
      simp
/-- How many pairs of a list a span has. -/
def spanLen (bo : Bool) (low high : Key) (L : Pairs) : Nat := (if bo = true then rankF high L else L.length) - rankF low L
theorem part_size (bo : Bool) (low high : Key) (t : Tree) (hs : Srt t.toL) : (partT bo low high t).size = spanLen bo low high t.toL := by
  have e1 := (split_toL low hs).2
  rw [← (rank_parts low hs).2] at e1
  cases bo with
  | false =>
    simp only [partT, spanLen, Bool.false_eq_true, if_false]
    rw [size_toL, e1, List.length_drop]
  | true =>
    have h1 : Srt (splitT low t).2.toL := by rw [e1]; exact List.Pairwise.sublist (List.drop_sublist _ _) hs
    have e2 := (split_toL high h1).1
    rw [← (rank_parts high h1).1] at e2
    simp only [partT, spanLen, if_true]
    rw [size_toL, e2, List.length_take, e1, rankF_drop high hs, List.length_drop]
    have := rankF_le high t.toL
    omega
/-- What a list of pairs that is in order makes, put in one after another. -/
theorem insL_last (k v : Key) {L : Pairs} (h : ∀ x ∈ L, klt x.1 k = true) : insL k v L = L ++ [(k, v)] := by
  unfold insL
  rw [filter_all h, filter_none fun x hx => klt_ko.asym (h x hx)]
theorem insAll_self : ∀ (L S : Pairs), Srt (S ++ L) → insAll L S = S ++ L
  | [], S, _ => by simp [insAll]
  | (k, v) :: L, S, h => by
    have h1 := (srt_node.1 h).2.2.1
    show insAll L (insL k v S) = _
    rw [insL_last k v h1, insAll_self L (S ++ [(k, v)]) (by simpa using h)]
    simp

theorem part_mem (bo : Bool) (low high : Key) (t : Tree) (hs : Srt t.toL) : ∀ p ∈ (partT bo low high t).toL, p ∈ t.toL := by
  intro p hp
  have e1 := (split_toL low hs).2
  cases bo with
  | false =>
    simp only [partT, Bool.false_eq_true, if_false] at hp
    rw [e1] at hp
    exact (List.mem_filter.1 hp).1
  | true =>
    have h1 : Srt (splitT low t).2.toL := by rw [e1]; exact List.Pairwise.filter _ hs
    simp only [partT, if_true] at hp
    rw [(split_toL high h1).1] at hp
    have := (List.mem_filter.1 hp).1
    rw [e1] at this
    exact (List.mem_filter.1 this).1

theorem touch_up {w0 w w' : World} {bb : Nat} (h : Touch Nil w0 w) (ht : Touch (Just bb) w w') (hb : w0.heap.size ≤ bb) : Touch Nil w0 w' := h.trans' ht fun b hb' hs => by have hs : b = bb := hs; omega

/-! ### The program -/
set_option maxRecDepth 100000 in
set_option maxHeartbeats 4000000 in
theorem spanDigest_map {seed : Int} {R : Nat → Prop} {w : World} {mb bb : Nat} {ra : Option Addr} {t : Tree} (h : MapAt seed R w mb bb ra t) {la ha : Option Addr} {ll lc hl hc : Nat} {low high : Key} (hlo : BV w (.slice la ll lc) low) (hhi : BV w (.slice ha hl hc) high) (bo : Bool) :
    Calls Try.prog 26 #[.pointer (some ⟨mb, 0, none⟩), .slice la ll lc, .slice ha hl hc, .bool bo] w fun e w' => e = .returned (.tuple #[.int .i64 (((partT bo low high t).size : Nat) : Int), .int .u64 ((digT seed (partT bo low high t) : Nat) : Int)]) ∧ Touch Nil w w' := by
  have HP := Lib.hid (part_map h hlo hhi bo)
  clear h hlo hhi
  generalize partT bo low high t = u at *
  obtain ⟨d, ed⟩ : ∃ d, digT seed u = d := ⟨_, rfl⟩
  obtain ⟨z, ez⟩ : ∃ z, u.size = z := ⟨_, rfl⟩
  rw [ed, ez]
  go_enter Try.func26, Try.ntmps26
  go_wp2_with fail
  refine HP.out.mono ?_
  rintro e w1 ⟨mb1, bb1, ra1, R1, rfl, hm1, _, ht1⟩
  have HT1 := Lib.hid ht1
  have HLE := Lib.hid (len_map hm1)
  have HDI := Lib.hid (digest_map hm1)
  rw [ed] at HDI
  rw [ez] at HLE
  clear hm1 ht1 ed ez
  go_wp2_with fail
  refine HLE.out.mono ?_
  rintro e w' ⟨rfl, rfl⟩
  go_wp2_with fail
  refine HDI.out.mono ?_
  rintro e w' ⟨rfl, rfl⟩
  go_wp2_with fail
  ((try simp only [Exit.inBlock, Exit.then]); refine bodyPost_ret (results_tmp2 rfl _ _ _) rfl ?_)
  exact ⟨rfl, HT1.out⟩

end Go.Proofs.Ytejiijbmmpahhaa
