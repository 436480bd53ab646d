import Derived.Test.YtebkpibaaoblbaaCalls
import Derived.Test.YtebkpibaaoblbaaAwake
/- SlotsCalls: what Layout is told of its two functions. -/
namespace Go.Proofs.Ytebkpibaaoblbaa
open Go.ChangeShapes Go.WideShapes Go.ChangeAt Go.RowKit Go.Deep

theorem cnt_le (l : List Int) (k : Nat) (x : Int) : cnt l k x ≤ k := by
  unfold cnt
  exact Nat.le_trans (List.length_filter_le _ _) (by simp; omega)
section
variable {b7 b6 b3 b5 sb : Nat} {ao : Option Addr} {cap : Nat} {l : List Int} {c : Bool} {f : Nat → Nat} {w : World}
theorem Known.congr {g : Nat → Nat} (h : Known b7 b6 b3 b5 sb ao cap l c f w) (e : ∀ j, j < l.length → f j = g j) : Known b7 b6 b3 b5 sb ao cap l c g w :=
  ⟨h.late, h.comp, h.nums, h.seen, h.row.congr e, h.data⟩
theorem Known.keepB {w' : World} {B : Nat} (h : Known b7 b6 b3 b5 sb ao cap l c f w) (hb : Below B w w') (h7 : b7 < B) (h6 : b6 < B) (h3 : b3 < B) (h5 : b5 < B) (hs : sb < B) (ha : 0 < l.length → ∀ a, ao = some a → a.block < B) : Known b7 b6 b3 b5 sb ao cap l c f w' := by
  refine ⟨(hb.block b7 h7).trans h.late, (hb.block b6 h6).trans h.comp, (hb.block b3 h3).trans h.nums, (hb.block b5 h5).trans h.seen, h.row.of_block (hb.block sb hs), fun i hi => ?_⟩
  obtain ⟨b, off, e, hc⟩ := h.data i hi
  refine ⟨b, off, e, ?_⟩
  rw [World.cell?_of_block (w := w) (hb.block b (ha (by omega) _ e))]
  exact hc

/-- What is known when k items were asked. -/
def CI (b7 b6 b3 b5 sb : Nat) (ao : Option Addr) (cap : Nat) (l : List Int) (k : Nat) (w : World) : Prop :=
  ∃ c, (k < l.length → c = false) ∧ Known b7 b6 b3 b5 sb ao cap l c (fun j => cnt l k (l.getD j 0)) w
def CS (b7 b6 sb : Nat) : Nat → Prop := fun b => b = b7 ∨ b = b6 ∨ b = sb
def numV (l : List Int) : Nat → Nat → Value := fun i _ => .int .i64 (l.getD i 0)

theorem calls_sta (A : Apart b7 b6 b3 b5 sb ao l.length) (hn : l.length ≤ 200) {B : Nat} (h7 : b7 < B) (h6 : b6 < B) (h3 : b3 < B) (h5 : b5 < B) (hs : sb < B) (ha : 0 < l.length → ∀ a, ao = some a → a.block < B) :
    Sta 26 #[.pointer (some ⟨b7, 0, none⟩), .pointer (some ⟨b6, 0, none⟩), .pointer (some ⟨b3, 0, none⟩), .pointer (some ⟨b5, 0, none⟩)] (itemN (numV l)) (fun i => l.getD i 0) l.length B (CI b7 b6 b3 b5 sb ao cap l) (CS b7 b6 sb) where
  enter := fun args w => by simp [go_sem]
  call := fun w x hI hx => by
    obtain ⟨c, hc, hK⟩ := hI
    rw [hc hx] at hK
    refine (asked_any A (l.getD x 0) hn (fun j _ => Nat.le_trans (cnt_le l x _) (by omega)) hK).mono ?_
    rintro e w' ⟨rfl, hK', hT⟩
    refine ⟨rfl, ⟨false, fun _ => rfl, hK'.congr fun j hj => ?_⟩, hT.mono fun b _ hb => hb.elim .inl fun h => .inr (.inr h)⟩
    rw [cnt_succ _ hx]
    unfold more
    by_cases g : l.getD j 0 = l.getD x 0
    · rw [if_pos ⟨hj, g⟩, if_pos g.symm]
    · rw [if_neg (fun h => g h.2), if_neg (fun h => g h.symm)]
      rfl
  keep := fun i w w' hI hb => by
    obtain ⟨c, hc, hK⟩ := hI
    exact ⟨c, hc, hK.keepB hb h7 h6 h3 h5 hs ha⟩
  low := fun b hb => by rcases hb with rfl | rfl | rfl <;> assumption

theorem calls_bef (A : Apart b7 b6 b3 b5 sb ao l.length) {B : Nat} (h7 : b7 < B) (h6 : b6 < B) (h3 : b3 < B) (h5 : b5 < B) (hs : sb < B) (ha : 0 < l.length → ∀ a, ao = some a → a.block < B) :
    Bef 27 #[.pointer (some ⟨b6, 0, none⟩)] (itemN (numV l)) (fun i j => decide (l.getD i 0 < l.getD j 0)) l.length B (CI b7 b6 b3 b5 sb ao cap l l.length) (CS b7 b6 sb) where
  enter := fun args w => by simp [go_sem]
  call := fun w x y hI hx hy => by
    obtain ⟨c, hc, hK⟩ := hI
    refine (compare_any A (l.getD x 0) (l.getD y 0) hK).mono ?_
    rintro e w' ⟨rfl, hK', hT⟩
    exact ⟨rfl, ⟨true, fun h => by omega, hK'⟩, hT.mono fun b _ hb => .inr (.inl hb)⟩
  keep := fun w w' hI hb => by
    obtain ⟨c, hc, hK⟩ := hI
    exact ⟨c, hc, hK.keepB hb h7 h6 h3 h5 hs ha⟩
  low := fun b hb => by rcases hb with rfl | rfl | rfl <;> assumption
end
end Go.Proofs.Ytebkpibaaoblbaa
