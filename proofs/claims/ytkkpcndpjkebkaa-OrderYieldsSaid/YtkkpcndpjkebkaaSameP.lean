import Derived.Test.YtkkpcndpjkebkaaProveR
import Derived.Test.YtkkpcndpjkebkaaClass
/- SamePairs of equal lists; the digest of a list, as the definition has it. -/
namespace Go.Proofs.Ytkkpcndpjkebkaa
open Go.ChangeShapes Go.WideShapes Go.ChangeAt Go.RowKit Go.Deep

theorem calls_classV {S : World → Prop} {f : FuncId} {args : Array Value} {s : Wld S} {v : Value} (h : Calls Try.prog f args s.w fun e w' => e = .returned v ∧ Touch Nil s.w w') (hR : ∀ w', Touch Nil s.w w' → S w') :
    Calls Try.prog f args s.w fun e w'' => e = .returned v ∧ ∃ s' : Wld S, w'' = s'.w := h.mono fun _ w' ⟨he, hr⟩ => ⟨he, ⟨⟨w', hR w' hr⟩, rfl⟩⟩
abbrev PairS (b o b' o' : Nat) (x0 x1 y0 y1 : Value) (w0 w' : World) : Prop :=
  w'.cell? ⟨b, o, none⟩ = some x0 ∧ w'.cell? ⟨b, o + 1, none⟩ = some x1 ∧ w'.cell? ⟨b', o', none⟩ = some y0 ∧ w'.cell? ⟨b', o' + 1, none⟩ = some y1 ∧ Hid (Touch Nil w0 w')
theorem PairS.step {b o b' o' : Nat} {x0 x1 y0 y1 : Value} {w0 w w' : World} (hs : Touch Nil w w') (h : PairS b o b' o' x0 x1 y0 y1 w0 w) : PairS b o b' o' x0 x1 y0 y1 w0 w' := by
  obtain ⟨h0, h1, h2, h3, h4⟩ := h
  exact ⟨cell_step h0 hs, cell_step h1 hs, cell_step h2 hs, cell_step h3 hs, Lib.hid (h4.out.trans hs)⟩
/-- An element of a list of pairs. -/
theorem PL.el {w : World} {ao : Option Addr} {n cap : Nat} {L : Pairs} (h : PL w (.slice ao n cap) L) {i : Nat} {p : Key × Key} (hp : L[i]? = some p) :
    ∃ b off ka kc ua uc, ao = some ⟨b, off, none⟩ ∧ b < w.heap.size ∧ w.cell? ⟨b, off + i * 2, none⟩ = some (.slice ka p.1.length kc) ∧ w.cell? ⟨b, off + i * 2 + 1, none⟩ = some (.slice ua p.2.length uc) ∧ BV w (.slice ka p.1.length kc) p.1 ∧ BV w (.slice ua p.2.length uc) p.2 := by
  obtain ⟨b, off, e, hb, f, hc, hf⟩ := h.at hp
  have h0 : BV w (f 0) p.1 := hf 0 (by omega)
  have h1 : BV w (f 1) p.2 := hf 1 (by omega)
  obtain ⟨ka, kc, e0⟩ := h0.len'
  obtain ⟨ua, uc, e1⟩ := h1.len'
  rw [e0] at h0
  rw [e1] at h1
  exact ⟨b, off, ka, kc, ua, uc, e, hb, by rw [← e0]; exact hc 0 (by omega), by rw [← e1]; exact hc 1 (by omega), h0, h1⟩
def TrueP (w : World) (e : Ending) (w' : World) : Prop := e = .returned (.bool true) ∧ Touch Nil w w'
set_option maxRecDepth 100000 in
set_option maxHeartbeats 4000000 in
theorem samePairs_any {w : World} {x y : Value} {L : Pairs} (h : PL w x L) (h' : PL w y L) (hk : ∀ p ∈ L, p.1.length ≤ 1000000 ∧ p.2.length ≤ 1000000) (hn : L.length ≤ 1000000) :
    Calls Try.prog 51 #[x, y] w (TrueP w) := by
  have HK := Lib.hid hk
  obtain ⟨xa, n, xc, rfl⟩ := h.form3
  obtain ⟨ya, n', yc, rfl⟩ := h'.form3
  have hl := h.len
  have hl' := h'.len
  obtain rfl : n = n' := by omega
  have HX := Lib.hid h
  have HY := Lib.hid h'
  have HL := Lib.hid hl
  have hn1 : n ≤ 1000000 := by omega
  have e0 : ((n : Int) != (n : Int)) = false := by simp
  clear h h' hk hn hl hl'
  go_enter Try.func51, Try.ntmps51
  go_wp2_with fail
  go_loopw [5] (fun i wr => ∃ z : Nat, z ≤ n ∧ i = .int .i64 (z : Int) ∧ Touch Nil w wr) (fun i _ => n - (intOf i).toNat)
  case atStart => exact ⟨0, Nat.zero_le _, rfl, Touch.refl _ _⟩
  obtain ⟨z, hz, rfl, hto⟩ := hrel
  have HT := Lib.hid hto
  clear hto
  by_cases hlt : z < n
  · obtain ⟨p, hp⟩ : ∃ p, L[z]? = some p := ⟨L[z]'(by have := HL.out; omega), List.getElem?_eq_getElem _⟩
    obtain ⟨b, off, ka, kc, ua, uc, rfl, hb, c0, c1, hbk, hbu⟩ := PL.el (HX.out.keepN HT.out) hp
    obtain ⟨b', off', ka', kc', ua', uc', rfl, hb', d0, d1, hbk', hbu'⟩ := PL.el (HY.out.keepN HT.out) hp
    have HBK := Lib.hid (And.intro hbk hbk')
    have HBU := Lib.hid (And.intro hbu hbu')
    have HQL := Lib.hid (HK.out p (List.mem_of_getElem? hp))
    clear hbk hbk' hbu hbu' hp hb hb'
    obtain ⟨kl, ekl⟩ : ∃ kl, p.1.length = kl := ⟨_, rfl⟩
    obtain ⟨ul, eul⟩ : ∃ ul, p.2.length = ul := ⟨_, rfl⟩
    rw [ekl] at c0 d0 HBK HQL
    rw [eul] at c1 d1 HBU HQL
    have HKL := Lib.hid (And.intro ekl eul)
    clear ekl eul
    have i1 : (z : Int) < (n : Int) := by omega
    have i2 : (0 : Int) ≤ (z : Int) := by omega
    have HSTART := Lib.hid (show PairS b (off + z * 2) b' (off' + z * 2) (.slice ka kl kc) (.slice ua ul uc) (.slice ka' kl kc') (.slice ua' ul uc') wr wr.drew from ⟨c0, c1, d0, d1, Lib.hid (Touch.refl _ _).drew⟩)
    have HC1 := Lib.hid (fun s : Wld (PairS b (off + z * 2) b' (off' + z * 2) (.slice ka kl kc) (.slice ua ul uc) (.slice ka' kl kc') (.slice ua' ul uc') wr) => show Calls Try.prog 58 #[.slice ka kl kc, .slice ka' kl kc'] s.w fun e w' => e = .returned (.int .i64 0) ∧ Touch Nil s.w w' from by
      have h := compareV_any (HBK.out.1.keepN s.ok.2.2.2.2.out) (HBK.out.2.keepN s.ok.2.2.2.2.out) (by have := HQL.out.1; have := HKL.out.1; omega) (by have := HQL.out.1; have := HKL.out.1; omega)
      rw [(cmpR_zero p.1 p.1).2 rfl] at h
      exact h.mono fun e w' ⟨he, k, hw⟩ => ⟨he, by rw [hw]; exact (Touch.refl _ _).drewN k⟩)
    have HC2 := Lib.hid (fun s : Wld (PairS b (off + z * 2) b' (off' + z * 2) (.slice ka kl kc) (.slice ua ul uc) (.slice ka' kl kc') (.slice ua' ul uc') wr) => show Calls Try.prog 58 #[.slice ua ul uc, .slice ua' ul uc'] s.w fun e w' => e = .returned (.int .i64 0) ∧ Touch Nil s.w w' from by
      have h := compareV_any (HBU.out.1.keepN s.ok.2.2.2.2.out) (HBU.out.2.keepN s.ok.2.2.2.2.out) (by have := HQL.out.2; have := HKL.out.2; omega) (by have := HQL.out.2; have := HKL.out.2; omega)
      rw [(cmpR_zero p.2 p.2).2 rfl] at h
      exact h.mono fun e w' ⟨he, k, hw⟩ => ⟨he, by rw [hw]; exact (Touch.refl _ _).drewN k⟩)
    have f0 := fun s : Wld (PairS b (off + z * 2) b' (off' + z * 2) (.slice ka kl kc) (.slice ua ul uc) (.slice ka' kl kc') (.slice ua' ul uc') wr) => s.ok.1
    have f1 := fun s : Wld (PairS b (off + z * 2) b' (off' + z * 2) (.slice ka kl kc) (.slice ua ul uc) (.slice ka' kl kc') (.slice ua' ul uc') wr) => s.ok.2.1
    have f2 := fun s : Wld (PairS b (off + z * 2) b' (off' + z * 2) (.slice ka kl kc) (.slice ua ul uc) (.slice ka' kl kc') (.slice ua' ul uc') wr) => s.ok.2.2.1
    have f3 := fun s : Wld (PairS b (off + z * 2) b' (off' + z * 2) (.slice ka kl kc) (.slice ua ul uc) (.slice ka' kl kc') (.slice ua' ul uc') wr) => s.ok.2.2.2.1
    clear c0 c1 d0 d1
    go_upto_region 6 with fail
    have _hne : Nonempty (Wld (PairS b (off + z * 2) b' (off' + z * 2) (.slice ka kl kc) (.slice ua ul uc) (.slice ka' kl kc') (.slice ua' ul uc') wr)) := ⟨⟨_, HSTART.out⟩⟩
    refine wp_region_class (S := PairS b (off + z * 2) b' (off' + z * 2) (.slice ka kl kc) (.slice ua ul uc) (.slice ka' kl kc') (.slice ua' ul uc') wr) HSTART.out (by kernel_rfl) (by kernel_rfl) ?_
    repeat (go_big_quiet_step (first
      | (go_at_call_of 58 (Value.slice ka kl kc); refine calls_classV (HC1.out _) ?_; intro w' ht; exact PairS.step ht (Wld.ok _))
      | (go_at_call_of 58 (Value.slice ua ul uc); refine calls_classV (HC2.out _) ?_; intro w' ht; exact PairS.step ht (Wld.ok _))))
    refine wpQuiet_nil ?_
    intro _ hw'
    obtain ⟨sq, hw''⟩ := hw'
    subst hw''
    have HOQ := Lib.hid sq.ok.2.2.2.2.out
    obtain ⟨w3, e3⟩ : ∃ w3, sq.w = w3 := ⟨_, rfl⟩
    rw [e3] at HOQ ⊢
    clear e3 sq f0 f1 f2 f3 HC1 HC2
    go_wp2_with fail
    go_roundw
    case rel => exact ⟨z + 1, by omega, by go_num, HT.out.trans HOQ.out⟩
    case measure => simp [intOf] <;> omega
  · obtain rfl : z = n := by omega
    have t1 : decide (z < z) = false := by simp
    go_wp2_with fail
    go_ret
    exact ⟨rfl, HT.out⟩

set_option maxHeartbeats 1000000 in
theorem digestR_any {seed : Int} {t : Tree} {w : World} {lx : Value} (hs : Srt t.toL) (hh : t.Heap (abv seed)) (ho : OkL t.toL) (hp : PL w lx t.toL) (hz : t.size ≤ 1000000) :
    Calls Try.prog 65 #[.int .u64 seed, lx] w fun e w' => e = .returned (.int .u64 ((digT seed t : Nat) : Int)) ∧ Touch Nil w w' := by
  have HND := Lib.hid (nodesR_any (seed := seed) hs hh ho hp hz)
  obtain ⟨la, ln, lc, rfl⟩ := hp.form3
  clear hs hh ho hp hz
  go_enter Try.func65, Try.ntmps65
  go_wp2_with fail
  refine HND.out.mono ?_
  rintro e w2 ⟨nx, rfl, hno, ht⟩
  have hnl : NL w2 nx (nodesT seed 0 t) := hno.rl
  have HT := Lib.hid ht
  obtain ⟨na, nn, nc, rfl⟩ := hnl.form3
  have hlen : nn = t.size := by have h := hnl.len; rw [nodesT_len] at h; exact h
  cases t with
  | nil =>
    obtain rfl : nn = 0 := hlen
    clear hno hnl ht HND
    go_wp2_with fail
    go_ret
    exact ⟨rfl, HT.out⟩
  | node l k u r =>
    obtain ⟨b, off, ka, kc, ua, uc, rfl, hb, ⟨_, _, c2, _, _, _⟩, _, _⟩ := NL.el (i := 0) (x := nodeAt seed 0 l k u r) hnl rfl
    have c2 : w2.cell? ⟨b, off + 2, none⟩ = some (.int .u64 ((digT seed (.node l k u r) : Nat) : Int)) := by rw [Nat.zero_mul, Nat.add_zero] at c2; exact c2
    have h1 : 0 < nn := by simp only [Tree.size] at hlen; omega
    have h2 : ((nn : Int) == 0) = false := by simp; omega
    have h3 : (0 : Int) < (nn : Int) := by omega
    generalize digT seed (.node l k u r) = d at *
    clear hno hnl ht HND hlen
    go_wp2_with fail
    go_ret
    exact ⟨rfl, HT.out⟩
end Go.Proofs.Ytkkpcndpjkebkaa
