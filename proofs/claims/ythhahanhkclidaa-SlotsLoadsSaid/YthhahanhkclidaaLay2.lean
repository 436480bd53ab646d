import Derived.Test.YthhahanhkclidaaLay1
import Derived.Test.YthhahanhkclidaaLayMath
/- The first free cell; the function that compares two items by their numbers (items of one cell). -/
namespace Go.Proofs.Ythhahanhkclidaa
open Go.ChangeShapes Go.WideShapes Go.ChangeAt Go.RowKit Go.Deep

def FreePost (blk C : Nat) (L : Nat → Option Nat) (x : Nat) (w : World) (e : Ending) (w' : World) : Prop :=
  e = .returned (.int .i64 ((ff C L x : Nat) : Int)) ∧ Touch (Just blk) w w' ∧ ∃ o', Ints w' blk C o' ∧ Onw C L o'

set_option maxHeartbeats 1000000 in
theorem firstFree_any (blk C cap c : Nat) (L : Nat → Option Nat) (o : Nat → Nat) (w : World) (h : Ints w blk C o) (hO : Onw C L o) (hf : ∃ x, x < C ∧ L x = none) (hc : c < C) (_hC : C ≤ 1048576) :
    Calls Try.prog 50 #[.slice (some ⟨blk, 0, none⟩) C cap, .int .i64 c] w (FreePost blk C L c w) := by
  have HF := Lib.hid hf
  have H := Lib.hid h
  have HO := Lib.hid hO
  clear hf h hO
  go_enter Try.func50, Try.ntmps50
  go_wp2_with fail
  go_loopw [1] (fun i wr => ∃ x o', x < C ∧ i = .int .i64 ((x : Nat) : Int) ∧ Hid (ff C L x = ff C L c) ∧ Ints wr blk C o' ∧ Onw C L o' ∧ Touch (Just blk) w wr) (fun i _ => dist C L (intOf i).toNat)
  case atStart => exact ⟨c, o, hc, rfl, Lib.hid rfl, H.out, HO.out, Touch.refl _ _⟩
  obtain ⟨x, o', hx, rfl, hff, hr, ho, hto⟩ := hrel
  have HO := Lib.hid ho
  have HT := Lib.hid hto
  have h1 := ho.lt x hx
  have h2 := ho.lt _ h1
  have c1 := hr.cell hx
  have c2 := hr.cell h1
  have HR := Lib.hid hr
  have HL := Lib.hid (And.intro h1 h2)
  have z1 := hr.frozen x
  clear ho hto hr h1 h2
  by_cases e : o' x = x
  · have HS := Lib.hid (show ff C L c = x from by rw [← hff.out]; exact HO.out.stop HF.out hx e)
    have hb : (((o' x : Nat) : Int) != (x : Int)) = false := by simp [e]
    have HE := Lib.hid e
    clear e
    generalize o' x = y at *
    go_wp2_with fail
    go_ret
    exact ⟨by rw [HS.out]; rfl, HT.out, o', HR.out, HO.out⟩
  · have hb : (((o' x : Nat) : Int) != (x : Int)) = true := by rw [bne_iff_ne]; omega
    have HSH := Lib.hid (HO.out.short HF.out hx e)
    have HR2 := Lib.hid (HR.out.set x (o' (o' x)))
    have HT2 := Lib.hid (HT.out.setCell ⟨blk, x, none⟩ (.int .i64 ((o' (o' x) : Nat) : Int)) fun _ => rfl)
    have c3 : (wr.setCell ⟨blk, x, none⟩ (.int .i64 ((o' (o' x) : Nat) : Int))).cell? ⟨blk, x, none⟩ = some (.int .i64 ((o' (o' x) : Nat) : Int)) := World.cell?_setCell_same' _ _ _ (by rw [c1]; rfl)
    have HH : (x : Int) < (C : Int) := by omega
    have HL2 : ((o' x : Nat) : Int) < (C : Int) := by have := HL.out.1; omega
    have hxl : o' x < C := HL.out.1
    clear e
    go_wp2_with fail
    go_roundw
    case rel => exact ⟨o' (o' x), _, HL.out.2, rfl, Lib.hid (HSH.out.2.2.trans hff.out), HR2.out, HSH.out.1, HT2.out⟩
    case measure => simp [intOf]; exact HSH.out.2.1

/-- The items of a slice, k cells each: of an empty one nothing is asked. -/
def Items (w : World) (ao : Option Addr) (n k : Nat) (v : Nat → Nat → Value) : Prop :=
  0 < n → ∃ b off, ao = some ⟨b, off, none⟩ ∧ b < w.heap.size ∧ ∀ i, i < n → ∀ c, c < k → w.cell? ⟨b, off + i * k + c, none⟩ = some (v i c)
theorem Items.keep {w w' : World} {ao : Option Addr} {n k : Nat} {v : Nat → Nat → Value} (h : Items w ao n k v) (hk : 0 < n → ∀ b o, ao = some ⟨b, o, none⟩ → b < w.heap.size → w'.heap[b]? = w.heap[b]?) (hs : w.heap.size ≤ w'.heap.size) : Items w' ao n k v := by
  intro hn
  obtain ⟨b, off, e, hb, hc⟩ := h hn
  refine ⟨b, off, e, by omega, fun i hi c hc' => ?_⟩
  rw [World.cell?_of_block (w := w) (hk hn b off e hb)]
  exact hc i hi c hc'

def BoolPost (r : Bool) (I : World → Prop) (S : Nat → Prop) (w : World) (e : Ending) (w' : World) : Prop := e = .returned (.bool r) ∧ I w' ∧ Touch S w w'

/-- What a layout is told of the function that says which item comes before which: B is where the call's own blocks begin. -/
structure Bef (g : Nat) (cb : Array Value) (item : Nat → Value) (lt : Nat → Nat → Bool) (n B : Nat) (I : World → Prop) (S : Nat → Prop) : Prop where
  enter : ∀ args w, (callFunc g args).run Try.prog w = .ok (.enter g args) w
  call : ∀ w (x y : Nat), I w → x < n → y < n → Calls Try.prog g (#[item x, item y] ++ cb) w (BoolPost (lt x y) I S w)
  keep : ∀ w w', I w → Below B w w' → I w'
  low : ∀ b, S b → b < B
end Go.Proofs.Ythhahanhkclidaa
