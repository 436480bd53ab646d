import Derived.Test.YtbckakpgfmcljaaNode
/- Items and nodes: how they are made and asked. -/
namespace Go.Proofs.Ytbckakpgfmcljaa
open Go.ChangeShapes Go.WideShapes Go.ChangeAt Go.RowKit Go.Deep

theorem digestOf_any {seed : Int} {R : Nat → Prop} {w : World} {t : Tree} {v : Value} (h : TreeAt seed R w t v) :
    Calls Try.prog 79 #[v] w fun e w' => e = .returned (.int .u64 ((digT seed t : Nat) : Int)) ∧ w' = w := by
  cases t with
  | nil =>
    obtain rfl : v = _ := h
    go_enter Try.func79, Try.ntmps79
    go_wp2_with fail
    go_ret
    exact ⟨rfl, rfl⟩
  | node l k u r =>
    obtain ⟨b, iv, lv, rv, rfl, _, hh, _⟩ := h
    obtain ⟨_, c1, _, _, _⟩ := node_cells hh
    generalize digT seed (.node l k u r) = d at *
    clear hh
    go_enter Try.func79, Try.ntmps79
    go_wp2_with fail
    go_ret
    exact ⟨rfl, rfl⟩
theorem sizeOf_any {seed : Int} {R : Nat → Prop} {w : World} {t : Tree} {v : Value} (h : TreeAt seed R w t v) :
    Calls Try.prog 70 #[v] w fun e w' => e = .returned (.int .i64 ((t.size : Nat) : Int)) ∧ w' = w := by
  cases t with
  | nil =>
    obtain rfl : v = _ := h
    go_enter Try.func70, Try.ntmps70
    go_wp2_with fail
    go_ret
    exact ⟨rfl, rfl⟩
  | node l k u r =>
    obtain ⟨b, iv, lv, rv, rfl, _, hh, _⟩ := h
    obtain ⟨_, _, c2, _, _⟩ := node_cells hh
    generalize Tree.size (.node l k u r) = d at *
    clear hh
    go_enter Try.func70, Try.ntmps70
    go_wp2_with fail
    go_ret
    exact ⟨rfl, rfl⟩

def ItemPost (seed : Int) (R : Nat → Prop) (k u : Key) (w : World) (e : Ending) (w' : World) : Prop := ∃ iv, e = .returned iv ∧ ItemAt seed R w' iv k u ∧ Touch Nil w w'
theorem OwnB.mb {R : Nat → Prop} {base : Nat} {w : World} {v : Value} {l : Key} (h : OwnB base w v l) (hR : ∀ b, base ≤ b → R b) : MB R w v l := ⟨h.base (Nat.zero_le _), fun b hb => hR b (h.block b hb).1⟩
set_option maxRecDepth 100000 in
set_option maxHeartbeats 2000000 in
theorem newItem_any (seed : Int) (R : Nat → Prop) {w : World} {kx ux : Value} {k u : Key} (hk : BV w kx k) (hu : BV w ux u) (hok : okK k u) (hR : ∀ b, w.heap.size ≤ b → R b) :
    Calls Try.prog 98 #[.int .u64 seed, kx, ux] w (ItemPost seed R k u w) := by
  have HK := Lib.hid hk
  have HU := Lib.hid hu
  have HR := Lib.hid hR
  have HOK := Lib.hid hok
  obtain ⟨ka, kc, rfl, _, hks⟩ := hk
  obtain ⟨ua, uc, rfl, _, _⟩ := hu
  have HCO := Lib.hid (fun w' (ht : Touch Nil w w') => by have := coinP_any seed 3 (ub k) ka kc w' (by have := hok.2.1; simp; omega) (hks.keepN ht); rw [ub_length] at this; exact this)
  have HH := Lib.hid (show coin seed 3 (ub k) = hgt seed k from rfl)
  have HE : ∃ kl, k.length = kl := ⟨_, rfl⟩
  obtain ⟨kl, ekl⟩ := HE
  have HE : ∃ ul, u.length = ul := ⟨_, rfl⟩
  obtain ⟨ul, eul⟩ := HE
  rw [ekl] at HK
  rw [eul] at HU
  simp only [ekl] at HCO
  rw [ekl, eul]
  generalize coin seed 3 (ub k) = y at *
  clear hks hR hok ekl eul
  go_enter Try.func98, Try.ntmps98
  go_wp2_with fail
  refine (bytesClone_any _ k w HK.out (by have := HOK.out.2.1; omega)).mono ?_
  rintro e w1 ⟨v1, rfl, ho1, ht1⟩
  obtain ⟨a1, l1, c1, rfl⟩ := ho1.form
  have HO1 := Lib.hid ho1
  have HT1 := Lib.hid ht1
  clear ho1 ht1
  go_wp2_with fail
  refine (bytesClone_any _ u w1 (HU.out.keepN HT1.out) (by have := HOK.out.2.2; omega)).mono ?_
  rintro e w2 ⟨v2, rfl, ho2, ht2⟩
  obtain ⟨a2, l2, c2, rfl⟩ := ho2.form
  have HO2 := Lib.hid ho2
  have HO1 := Lib.hid (HO1.out.keep ht2 (fun _ _ c => c))
  have HT2 := Lib.hid (HT1.out.trans ht2)
  have HW1 := Lib.hid HT1.out.size
  clear ho2 ht2
  go_wp2_with fail
  refine (HCO.out _ HT2.out).mono ?_
  rintro e w3 ⟨rfl, rfl⟩
  go_wp2_with fail
  go_ret
  have hta := (Touch.refl Nil w2).alloc (.cells #[.slice a1 l1 c1, .slice a2 l2 c2, .int .u64 y] 129)
  refine ⟨_, rfl, ⟨w2.heap.size, .slice a1 l1 c1, .slice a2 l2 c2, rfl, HR.out _ HT2.out.size, ?_, ?_, ?_, HOK.out⟩, HT2.out.trans hta⟩
  · rw [← HH.out]; exact heap_alloc_new _ _
  · exact (HO1.out.keep hta (fun _ _ c => c)).mb HR.out
  · exact (HO2.out.keep hta (fun _ _ c => c)).mb fun b hb => HR.out b (by have := HW1.out; omega)

/-- An answer of a function that only reads. -/
def QuB (r : Bool) (w : World) (e : Ending) (w' : World) : Prop := e = .returned (.bool r) ∧ ∃ n, w' = w.drewN n
set_option maxRecDepth 100000 in
set_option maxHeartbeats 2000000 in
theorem above_any {seed : Int} {R R' : Nat → Prop} {w : World} {iv iv' : Value} {k u k' u' : Key} (h : ItemAt seed R w iv k u) (h' : ItemAt seed R' w iv' k' u') :
    Calls Try.prog 109 #[iv, iv'] w (QuB (abv seed k k') w) := by
  obtain ⟨b, kx, ux, rfl, _, hh, h1, _, _⟩ := h
  obtain ⟨b', kx', ux', rfl, _, hh', h1', _, _⟩ := h'
  obtain ⟨x0, _, x2⟩ := item_cells hh
  obtain ⟨y0, _, y2⟩ := item_cells hh'
  have HC := Lib.hid (fun n => compareP_any (w := w.drewN n) (x := kx) (y := kx') (h1.bv.keepN ((Touch.refl Nil w).drewN n)) (h1'.bv.keepN ((Touch.refl Nil w).drewN n)))
  have HR := Lib.hid (show abv seed k k' = (decide (hgt seed k' < hgt seed k) || (decide (hgt seed k = hgt seed k') && decide (Lib.compareBytes k k' < 0))) from rfl)
  obtain ⟨a1, l1, c1, rfl⟩ := h1.1.form
  obtain ⟨a2, l2, c2, rfl⟩ := h1'.1.form
  generalize abv seed k k' = r at *
  generalize hgt seed k = x at *
  generalize hgt seed k' = y at *
  generalize Lib.compareBytes k k' = z at *
  clear hh hh' h1 h1'
  rcases Int.lt_trichotomy y x with o | o | o
  · have hd : decide (y < x) = true := by simpa using o
    go_enter Try.func109, Try.ntmps109
    go_wp2_with fail
    go_quiet (fail)
    go_wp2_with fail
    go_ret
    exact ⟨by rw [HR.out, hd]; rfl, _, rfl⟩
  · have hd : decide (y < x) = false := by simp; omega
    have hq : ((x : Int) == y) = true := by simp; omega
    have HQ := Lib.hid (show decide (x = y) = true by simp; omega)
    have HD := Lib.hid hd
    clear o
    go_enter Try.func109, Try.ntmps109
    go_wp2_with fail
    go_quiet ((go_at_call 91; refine Calls.quiet_of_same (v := .int .i64 z) ?_; exact (HC.out _).mono fun _ _ h => ⟨h.1, h.2.symm⟩))
    go_wp2_with fail
    go_ret
    exact ⟨by rw [HR.out, HD.out, HQ.out]; rfl, _, rfl⟩
  · have hd : decide (y < x) = false := by simp; omega
    have hq : ((x : Int) == y) = false := by simp; omega
    have HQ := Lib.hid (show decide (x = y) = false by simp; omega)
    have HD := Lib.hid hd
    clear o
    go_enter Try.func109, Try.ntmps109
    go_wp2_with fail
    go_quiet (fail)
    go_wp2_with fail
    go_ret
    exact ⟨by rw [HR.out, HD.out, HQ.out]; rfl, _, rfl⟩
end Go.Proofs.Ytbckakpgfmcljaa
