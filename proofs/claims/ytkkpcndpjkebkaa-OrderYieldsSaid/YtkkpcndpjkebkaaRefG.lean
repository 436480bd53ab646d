import Derived.Test.YtkkpcndpjkebkaaRefP
import Derived.Test.YtkkpcndpjkebkaaProve
/- Get, Height and Top, as the definition has them. -/
namespace Go.Proofs.Ytkkpcndpjkebkaa
open Go.ChangeShapes Go.WideShapes Go.ChangeAt Go.RowKit Go.Deep

theorem hasF_at {key : Key} {L : Pairs} (h : hasF key L = true) : ∃ p, L[rankF key L]? = some p ∧ p.1 = key := by
  unfold hasF at h
  cases e : L[rankF key L]? with
  | none => rw [e] at h; cases h
  | some p => rw [e] at h; exact ⟨p, rfl, of_decide_eq_true h⟩
def GetR (key : Key) (L : Pairs) (w : World) (e : Ending) (w' : World) : Prop := ∃ v c, e = .returned (.tuple #[v, .int .i64 c]) ∧ ((c = 3 ∧ v = .slice none 0 0 ∧ hasF key L = false) ∨ (c = 0 ∧ hasF key L = true ∧ ∃ p, L[rankF key L]? = some p ∧ p.1 = key ∧ BV w' v p.2)) ∧ Touch Nil w w'
set_option maxRecDepth 100000 in
set_option maxHeartbeats 1000000 in
theorem getR_any {w : World} {x kx : Value} {L : Pairs} {key : Key} (h : PL w x L) (hs : Short L) (hn : L.length ≤ 1000000) (hk : BV w kx key) (hkl : key.length ≤ 1000000) :
    Calls Try.prog 37 #[x, kx] w (GetR key L w) := by
  have hh := hasR_any h hs hn hk hkl
  have HRK := Lib.hid (fun w' (ht : Touch Nil w w') => rankR_any (h.keepN ht) hs hn (hk.keepN ht) hkl)
  obtain ⟨ao, cap, rfl⟩ := h.form
  have HP := Lib.hid h
  obtain ⟨qa, qc, rfl⟩ := hk.len'
  have HE : ∃ n, L.length = n := ⟨_, rfl⟩
  obtain ⟨n, en⟩ := HE
  rw [en] at HP hn HRK hh ⊢
  have HN := Lib.hid en
  cases hq : hasF key L with
  | false =>
    rw [hq] at hh
    have HH := Lib.hid hh
    have HQ := Lib.hid hq
    clear h hs hk en hkl hh hq
    go_enter Try.func37, Try.ntmps37
    go_wp2_with fail
    refine HH.out.mono ?_
    rintro e w1 ⟨rfl, ht1⟩
    have HT := Lib.hid ht1
    clear ht1
    go_wp2_with fail
    go_ret2
    exact ⟨_, _, rfl, .inl ⟨rfl, rfl, HQ.out⟩, HT.out⟩
  | true =>
    rw [hq] at hh
    have HH := Lib.hid hh
    obtain ⟨p, hp, hpk⟩ := hasF_at hq
    have HQ := Lib.hid (And.intro hq (And.intro hp hpk))
    have hr : rankF key L < n := by have := (List.getElem?_eq_some_iff.1 hp).1; omega
    clear h hs hk en hkl hh hq hp hpk
    obtain ⟨r, er⟩ : ∃ r, rankF key L = r := ⟨_, rfl⟩
    rw [er] at hr
    have HRE := Lib.hid er
    rw [er] at HRK
    clear er
    have i1 : (r : Int) < (n : Int) := by omega
    have i2 : (0 : Int) ≤ (r : Int) := by omega
    go_enter Try.func37, Try.ntmps37
    go_wp2_with fail
    refine HH.out.mono ?_
    rintro e w1 ⟨rfl, ht1⟩
    have HT := Lib.hid ht1
    clear ht1
    go_wp2_with fail
    refine (HRK.out w1 HT.out).mono ?_
    rintro e w2 ⟨rfl, ht2⟩
    have HT2 := Lib.hid (HT.out.trans ht2)
    clear ht2
    obtain ⟨b, off, rfl, hb, f, hc, hf⟩ := (HP.out.keepN HT2.out).at (show L[r]? = some p from by rw [← HRE.out]; exact HQ.out.2.1)
    have c1 := hc 1 (by omega)
    have hk1 : BV w2 (f 1) p.2 := hf 1 (by omega)
    obtain ⟨fa, fc, ef⟩ := hk1.len'
    rw [ef] at c1 hk1
    have HK1 := Lib.hid hk1
    clear hc hf ef hk1 hb
    go_wp2_with fail
    go_ret2
    exact ⟨_, _, rfl, .inr ⟨rfl, HQ.out.1, p, HQ.out.2.1, HQ.out.2.2, HK1.out⟩, HT2.out⟩

theorem heightR_any (seed : Int) {w : World} {x : Value} {k : Key} (h : BV w x k) (hl : k.length ≤ 1000000) :
    Calls Try.prog 113 #[.int .u64 seed, x] w fun e w' => e = .returned (.int .u64 (hgt seed k)) ∧ w = w' := by
  obtain ⟨ka, kc, e, _, hs⟩ := h
  subst e
  have hc := coinR_any seed 3 (ub k) ka kc w (by simp; omega) hs
  rw [ub_length] at hc
  have HC := Lib.hid hc
  have HG := Lib.hid (show hgt seed k = hgt seed k from rfl)
  clear hc hs hl
  go_enter Try.func113, Try.ntmps113
  go_wp2_with fail
  refine HC.out.mono ?_
  rintro e w' ⟨rfl, rfl⟩
  go_wp2_with fail
  go_ret
  exact ⟨rfl, rfl⟩

/-- Which pair stands at the root. -/
def TopAt (seed : Int) (L : Pairs) (b : Int) : Prop := (L = [] ∧ b = -1) ∨ ∃ (i : Nat) (p : Key × Key), b = (i : Int) ∧ L[i]? = some p ∧ (∀ j q, j < i → L[j]? = some q → hgt seed q.1 < hgt seed p.1) ∧ ∀ j q, i < j → L[j]? = some q → hgt seed q.1 ≤ hgt seed p.1
def TopPost (seed : Int) (L : Pairs) (w : World) (e : Ending) (w' : World) : Prop := ∃ b, e = .returned (.int .i64 b) ∧ TopAt seed L b ∧ w = w'
def TopIn (seed : Int) (L : Pairs) (x : Nat) (b h : Int) : Prop := (x = 0 ∧ b = -1 ∧ h = 0) ∨ ∃ (i : Nat) (p : Key × Key), i < x ∧ b = (i : Int) ∧ h = hgt seed p.1 ∧ L[i]? = some p ∧ (∀ j q, j < i → L[j]? = some q → hgt seed q.1 < hgt seed p.1) ∧ ∀ j q, i < j → j < x → L[j]? = some q → hgt seed q.1 ≤ hgt seed p.1
theorem TopIn.new {seed : Int} {L : Pairs} {x : Nat} {b h : Int} {p : Key × Key} (ht : TopIn seed L x b h) (hp : L[x]? = some p) (hh : b = -1 ∨ h < hgt seed p.1) : TopIn seed L (x + 1) (x : Int) (hgt seed p.1) := by
  refine .inr ⟨x, p, by omega, rfl, rfl, hp, fun j q hj hq => ?_, fun j q h1 h2 _ => by omega⟩
  rcases ht with ⟨h1, h2, h3⟩ | ⟨i, p', h1, h2, h3, h4, h5, h6⟩
  · omega
  · have hlt : hgt seed p'.1 < hgt seed p.1 := by
      rcases hh with hh | hh
      · omega
      · rw [← h3]; exact hh
    rcases Nat.lt_trichotomy j i with c | c | c
    · have := h5 j q c hq; omega
    · subst c; rw [h4] at hq; cases hq; exact hlt
    · have := h6 j q c hj hq; omega
theorem TopIn.old {seed : Int} {L : Pairs} {x : Nat} {b h : Int} {p : Key × Key} (ht : TopIn seed L x b h) (hp : L[x]? = some p) (hb : 0 ≤ b) (hh : hgt seed p.1 ≤ h) : TopIn seed L (x + 1) b h := by
  rcases ht with ⟨h1, h2, h3⟩ | ⟨i, p', h1, h2, h3, h4, h5, h6⟩
  · omega
  · refine .inr ⟨i, p', by omega, h2, h3, h4, h5, fun j q c1 c2 hq => ?_⟩
    by_cases c : j = x
    · subst c; rw [hp] at hq; cases hq; rw [← h3]; exact hh
    · exact h6 j q c1 (by omega) hq
set_option maxRecDepth 100000 in
set_option maxHeartbeats 2000000 in
theorem topR_any (seed : Int) {w : World} {x : Value} {L : Pairs} (h : PL w x L) (hs : Short L) (hn : L.length ≤ 1000000) :
    Calls Try.prog 104 #[.int .u64 seed, x] w (TopPost seed L w) := by
  obtain ⟨ao, cap, rfl⟩ := h.form
  have HP := Lib.hid h
  have HS := Lib.hid hs
  have HE : ∃ n, L.length = n := ⟨_, rfl⟩
  obtain ⟨n, en⟩ := HE
  rw [en] at HP hn ⊢
  have HN := Lib.hid en
  clear h hs en
  go_enter Try.func104, Try.ntmps104
  go_wp2_with fail
  go_loopw [5, 6, 7] (fun s5 s6 i wr => ∃ (y : Nat) (b g : Int), y ≤ n ∧ i = .int .i64 (y : Int) ∧ s5 = .int .i64 b ∧ s6 = .int .u64 g ∧ Hid (TopIn seed L y b g) ∧ w = wr) (fun _ _ i _ => n - (intOf i).toNat)
  case atStart => exact ⟨0, -1, 0, Nat.zero_le _, rfl, rfl, rfl, Lib.hid (.inl ⟨rfl, rfl, rfl⟩), rfl⟩
  obtain ⟨y, b, g, hy, rfl, rfl, rfl, HX, rfl⟩ := hrel
  by_cases hlt : y < n
  · obtain ⟨p, hp⟩ : ∃ p, L[y]? = some p := ⟨L[y]'(by have := HN.out; omega), List.getElem?_eq_getElem _⟩
    obtain ⟨bb, off, rfl, hb, f, hc, hf⟩ := HP.out.at hp
    have c0 := hc 0 (by omega)
    rw [Nat.add_zero] at c0
    have hk0 : BV w (f 0) p.1 := hf 0 (by omega)
    have HC := Lib.hid (heightR_any seed hk0 (HS.out _ (List.mem_of_getElem? hp)).1)
    obtain ⟨fa, fc, ef⟩ := hk0.len'
    rw [ef] at c0 HC
    have HP0 := Lib.hid hp
    have HNEW := Lib.hid (fun hh => HX.out.new hp hh)
    have HOLD := Lib.hid (fun h1 h2 => HX.out.old hp h1 h2)
    have hcase : b = -1 ∨ 0 ≤ b := by
      rcases HX.out with ⟨_, h2, _⟩ | ⟨i, _, _, h2, _⟩ <;> omega
    generalize hgt seed p.1 = hg at *
    generalize p.1.length = fl at *
    have i1 : (y : Int) < (n : Int) := by omega
    have i2 : (0 : Int) ≤ (y : Int) := by omega
    clear hc hf hk0 ef hp hb
    cases hd : decide (b < 0) with
    | true =>
      have HD := Lib.hid (show b = -1 by have := of_decide_eq_true hd; omega)
      clear hcase
      go_wp2_with fail
      refine HC.out.mono ?_
      rintro e w2 ⟨rfl, rfl⟩
      go_wp2_with fail
      go_roundw
      case rel => exact ⟨y + 1, y, hg, by omega, by go_num, rfl, rfl, Lib.hid (HNEW.out (.inl HD.out)), trivial⟩
      case measure => simp [intOf] <;> omega
    | false =>
      have HD := Lib.hid (of_decide_eq_false hd)
      clear hcase
      cases hd2 : decide (g < hg) with
      | true =>
        have HD2 := Lib.hid (of_decide_eq_true hd2)
        go_wp2_with fail
        refine HC.out.mono ?_
        rintro e w2 ⟨rfl, rfl⟩
        go_wp2_with fail
        go_roundw
        case rel => exact ⟨y + 1, y, hg, by omega, by go_num, rfl, rfl, Lib.hid (HNEW.out (.inr HD2.out)), trivial⟩
        case measure => simp [intOf] <;> omega
      | false =>
        have HD2 := Lib.hid (of_decide_eq_false hd2)
        go_wp2_with fail
        refine HC.out.mono ?_
        rintro e w2 ⟨rfl, rfl⟩
        go_wp2_with fail
        go_roundw
        case rel => exact ⟨y + 1, b, g, by omega, by go_num, rfl, rfl, Lib.hid (HOLD.out (by have := HD.out; omega) (by have := HD2.out; omega)), trivial⟩
        case measure => simp [intOf] <;> omega
  · obtain rfl : y = n := by omega
    have t1 : decide (y < y) = false := by simp
    go_wp2_with fail
    go_ret
    refine ⟨_, rfl, ?_, rfl⟩
    rcases HX.out with ⟨h1, h2, h3⟩ | ⟨i, p', h1, h2, h3, h4, h5, h6⟩
    · exact .inl ⟨by have := HN.out; exact List.eq_nil_of_length_eq_zero (by omega), h2⟩
    · exact .inr ⟨i, p', h2, h4, h5, fun j q c hq => h6 j q c (by have := (List.getElem?_eq_some_iff.1 hq).1; have := HN.out; omega) hq⟩
end Go.Proofs.Ytkkpcndpjkebkaa
