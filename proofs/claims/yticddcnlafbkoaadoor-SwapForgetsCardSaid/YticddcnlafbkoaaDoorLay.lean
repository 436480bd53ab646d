import Derived.Test.YticddcnlafbkoaaDoorSort
import Derived.WalkSmall
import Derived.Test.YticddcnlafbkoaaDoorRow
import Derived.Test.YticddcnlafbkoaaDoorLayMath
/- What a layout is made of: numbers, Repeat of -1, the first free cell. -/
namespace Go.Proofs.YticddcnlafbkoaaDoor
open Go.ChangeShapes Go.WideShapes Go.ChangeAt Go.RowKit Go.Deep

theorem infoInt : (Tryd.prog.info? 3).map (fun i => (i.zero, i.size, i.bytes)) = some (some (.int .i64 0), 1, 8) := by kernel_rfl

/-- A new row of ints is handed back. -/
def NewInts (n : Nat) (f : Nat → Nat) (w : World) (e : Ending) (w' : World) : Prop :=
  ∃ b, e = .returned (.slice (some ⟨b, 0, none⟩) n n) ∧ w.heap.size ≤ b ∧ Ints w' b n f ∧ Touch Nil w w'

set_option maxHeartbeats 1000000 in
theorem numbers_any (n : Nat) (w : World) (hn : n ≤ 1048576) :
    Calls Tryd.prog 87 #[.int .i64 n] w (NewInts n (fun k => k) w) := by
  have hmk := run_make_row' (P := Tryd.prog) 112 3 (.int .i64 0) 8 Tryd.underlying112 infoInt rfl .i64 .i64 n (by omega) (by omega)
  go_enter Tryd.func87, Tryd.ntmps87
  go_wp2
  clear hmk
  go_loopw [9] (fun i wr => ∃ x : Nat, x ≤ n ∧ i = .int .i64 x ∧ Ints wr w.heap.size n (fun k => if k < x then k else 0) ∧ Touch Nil w wr) (fun i _ => n - (intOf i).toNat)
  case atStart =>
    refine ⟨0, by omega, rfl, World.rowIs.congr (World.rowIs_made w (.int .i64 0) n 3) fun i _ => by simp, ?_⟩
    exact (Touch.refl _ _).alloc _
  obtain ⟨x, hx, rfl, hf, hto⟩ := hrel
  by_cases hlt : x < n
  · have c1 := hf.cell hlt
    have z1 := hf.frozen x
    have HF := Lib.hid (hf.set x x)
    have HT := Lib.hid (hto.setCell ⟨w.heap.size, x, none⟩ (.int .i64 (x : Int)) fun h => by simp at h)
    clear hf hto
    go_wp2
    go_roundw
    case rel => exact ⟨x + 1, by omega, by go_num, HF.out.congr (fun i hi => by by_cases c : i = x <;> simp [c] <;> (try omega) <;> (repeat' split) <;> omega), HT.out⟩
    case measure => simp [intOf]; omega
  · obtain rfl : x = n := by omega
    have HF := Lib.hid hf
    have HT := Lib.hid hto
    clear hf hto
    go_wp2
    go_ret
    exact ⟨_, rfl, Nat.le_refl _, HF.out.congr fun i hi => by simp [hi], HT.out⟩

theorem low32 (y : Nat) (h : y ≤ 1048576) : bits BinOp.and IntKind.u64 (y : Int) 4294967295 = (y : Int) := by
  have := bits_and_u64_nat y 4294967295 (by omega) (by omega)
  rw [show (4294967295 : Nat) = 2 ^ 32 - 1 from rfl, Nat.and_two_pow_sub_one_eq_mod, Nat.mod_eq_of_lt (by omega)] at this
  exact this

set_option maxHeartbeats 1000000 in
theorem mul64_one (y : Nat) (w : World) (h : y ≤ 1048576) :
    Calls Tryd.prog 100 #[.int .u64 1, .int .u64 y] w fun e w' => e = .returned (.tuple #[.int .u64 0, .int .u64 y]) ∧ w = w' := by
  have h1 := low32 y h
  have h2 : (y : Int) / 4294967296 = 0 := by omega
  have h3 : bits BinOp.and IntKind.u64 1 4294967295 = 1 := low32 1 (by omega)
  have h4 : bits BinOp.and IntKind.u64 0 4294967295 = 0 := low32 0 (by omega)
  go_enter Tryd.func100, Tryd.ntmps100
  go_wp2
  go_ret2
  exact ⟨rfl, rfl⟩

set_option maxHeartbeats 1000000 in
theorem mul_one' (y : Nat) (w : World) (h : y ≤ 1048576) :
    Calls Tryd.prog 95 #[.int .u64 1, .int .u64 y] w fun e w' => e = .returned (.tuple #[.int .u64 0, .int .u64 y]) ∧ w = w' := by
  have H := Lib.hid (mul64_one y w h)
  go_enter Tryd.func95, Tryd.ntmps95
  go_wp2_with fail
  refine H.out.mono ?_
  rintro e w' ⟨rfl, rfl⟩
  go_wp2_with fail
  go_ret2
  exact ⟨rfl, rfl⟩

/-- A new row whose cells all hold one value. -/
def NewSame (n : Nat) (v : Value) (w : World) (e : Ending) (w' : World) : Prop :=
  ∃ b, e = .returned (.slice (some ⟨b, 0, none⟩) n n) ∧ w.heap.size ≤ b ∧ w'.rowIs b 3 n (fun _ => v) ∧ Touch Nil w w'

set_option maxRecDepth 100000 in
set_option maxHeartbeats 1000000 in
theorem repeat_any (v : Value) (hv : v.oneCell' = true) (b0 cap y : Nat) (w : World) (h : 1 ≤ y) (hy : y ≤ 1048576) (hc : w.cell? ⟨b0, 0, none⟩ = some v) :
    Calls Tryd.prog 86 #[.slice (some ⟨b0, 0, none⟩) 1 cap, .int .i64 y] w (NewSame y v w) := by
  have hmk := run_make_row' (P := Tryd.prog) 112 3 (.int .i64 0) 8 Tryd.underlying112 infoInt rfl .i64 .i64 y (by omega) (by omega)
  have H := Lib.hid (mul_one' y w hy)
  have hd1 : decide ((y : Int) < 0) = false := by simp
  have hd2 : decide ((9223372036854775807 : Int) < (y : Int)) = false := by simp; omega
  go_enter Tryd.func86, Tryd.ntmps86
  go_wp2_with fail
  refine H.out.mono ?_
  rintro e w' ⟨rfl, rfl⟩
  clear H
  have hrow := World.rowIs_made w (.int .i64 0) y 3
  have ht := (Touch.refl Nil w).alloc (.cells (madeCells #[.int .i64 0] y) 3)
  have hc2 : (w.alloc (.cells (madeCells #[.int .i64 0] y) 3)).cell? ⟨b0, 0, none⟩ = some v := by rw [World.cell?_alloc_lt _ _ _ (World.block_lt_of_cell? w _ hc)]; exact hc
  have hlt0 := World.block_lt_of_cell? w _ hc
  have HROW := Lib.hid hrow
  have HT := Lib.hid ht
  have HC2 := Lib.hid hc2
  clear hrow ht hc2
  go_wp2_with (refine wpList_copy_row rfl (.tmp 31) (.tmp 32) 112 112 rfl 3 Tryd.underlying112 (by kernel_rfl) w.heap.size 0 y y 1 cap (some ⟨b0, 0, none⟩) rfl rfl 3 y 1 (fun _ => .int .i64 0) (fun _ => v) HROW.out ?q1 ?q2 ?q3 ?q4 ?q5)
  case q1 => exact (Nat.min_eq_left h).symm
  case q2 => exact fun _ => ⟨b0, 0, rfl, fun j hj => by rw [show 0 + j = 0 from by omega]; exact HC2.out⟩
  case q3 => omega
  case q4 => exact fun _ _ => hv
  intro w2 HR2 HT2
  have HT2 := Lib.hid (HT.out.trans' HT2.out (S' := Just w.heap.size) fun b hb hs => by cases hs; omega)
  clear hmk HROW HT HC2 hc
  go_wp2_with fail
  go_loopw [8] (fun k wr => ∃ x : Nat, 1 ≤ x ∧ x ≤ y ∧ k = .int .i64 x ∧ wr.rowIs w.heap.size 3 y (fun i => if i < x then v else .int .i64 0) ∧ Touch Nil w wr) (fun k _ => y - (intOf k).toNat)
  case atStart => exact ⟨1, by omega, h, rfl, HR2.out.congr fun i _ => by unfold laid; by_cases c : i < 1 <;> simp [c] <;> omega, HT2.out⟩
  obtain ⟨x, hx1, hxy, rfl, hrow, hto⟩ := hrel
  by_cases hlt : x < y
  · have HROW := Lib.hid hrow
    have HTO := Lib.hid hto
    clear hrow hto
    have hne : ¬ y = x := by omega
    obtain ⟨m, HM⟩ : ∃ m, Hid (m = min x (y - x)) := ⟨_, Lib.hid rfl⟩
    have hm1 : 1 ≤ m := by have := HM.out; omega
    have hm2 : x + m ≤ y := by have := HM.out; omega
    have hm3 : m ≤ x := by have := HM.out; omega
    have HSRC := Lib.hid (show 0 < m → ∃ b o, some (⟨w.heap.size, 0, none⟩ : Addr) = some ⟨b, o, none⟩ ∧ ∀ j, j < m → wr.drew.cell? ⟨b, o + j, none⟩ = some v from
      fun _ => ⟨w.heap.size, 0, rfl, fun j hj => by
        have := HROW.out.cell (i := j) (by omega)
        rw [if_pos (by omega)] at this
        rw [Nat.zero_add]; exact this⟩)
    have ew : IntKind.i64.wrap ((x : Int) + (m : Int)) = ((x + m : Nat) : Int) := by rw [IntWalk.i64_in _ (by omega)]; omega
    go_wp2_with fail
    go_region_law (refine step_copy_row rfl (.tmp 41) (.tmp 44) 112 112 rfl 3 Tryd.underlying112 (by kernel_rfl) w.heap.size x (y - x) (y - x) x y (some ⟨w.heap.size, 0, none⟩) (by simp [Act.eval, Act.put]) (by simp [Act.eval, Act.put]) 3 y m _ (fun _ => v) HROW.out.drew HM.out HSRC.out (by omega) (fun _ _ => hv) ?_; intro w3 HR3 HT3)
    all_goals
      go_simp
      clear ew
      go_wp2_with fail
      go_roundw
      case rel =>
        refine ⟨x + m, by omega, by omega, by go_num, HR3.out.congr fun i hi => ?_, (HTO.out.drew).trans' HT3.out fun b hb hs => by cases hs; omega⟩
        unfold laid
        by_cases c1 : i < x <;> by_cases c2 : i < x + m <;> simp [c1, c2] <;> omega
      case measure => simp [intOf]; omega
  · obtain rfl : x = y := by omega
    have HROW := Lib.hid hrow
    have HTO := Lib.hid hto
    clear hrow hto
    go_wp2_with fail
    go_ret
    exact ⟨_, rfl, Nat.le_refl _, HROW.out.congr fun i hi => by simp [hi], HTO.out⟩
end Go.Proofs.YticddcnlafbkoaaDoor

/- The first free cell; the function that compares two items by their numbers (items of one cell). -/
namespace Go.Proofs.YticddcnlafbkoaaDoor
open Go.ChangeShapes Go.WideShapes Go.ChangeAt Go.RowKit Go.Deep

def FreePost (blk C : Nat) (L : Nat → Option Nat) (x : Nat) (w : World) (e : Ending) (w' : World) : Prop :=
  e = .returned (.int .i64 ((ff C L x : Nat) : Int)) ∧ Touch (Just blk) w w' ∧ ∃ o', Ints w' blk C o' ∧ Onw C L o'

set_option maxHeartbeats 1000000 in
theorem firstFree_any (blk C cap c : Nat) (L : Nat → Option Nat) (o : Nat → Nat) (w : World) (h : Ints w blk C o) (hO : Onw C L o) (hf : ∃ x, x < C ∧ L x = none) (hc : c < C) (_hC : C ≤ 1048576) :
    Calls Tryd.prog 89 #[.slice (some ⟨blk, 0, none⟩) C cap, .int .i64 c] w (FreePost blk C L c w) := by
  have HF := Lib.hid hf
  have H := Lib.hid h
  have HO := Lib.hid hO
  clear hf h hO
  go_enter Tryd.func89, Tryd.ntmps89
  go_wp2_with fail
  go_loopw [1] (fun i wr => ∃ x o', x < C ∧ i = .int .i64 ((x : Nat) : Int) ∧ Hid (ff C L x = ff C L c) ∧ Ints wr blk C o' ∧ Onw C L o' ∧ Touch (Just blk) w wr) (fun i _ => dist C L (intOf i).toNat)
  case atStart => exact ⟨c, o, hc, rfl, Lib.hid rfl, H.out, HO.out, Touch.refl _ _⟩
  obtain ⟨x, o', hx, rfl, hff, hr, ho, hto⟩ := hrel
  have HO := Lib.hid ho
  have HT := Lib.hid hto
  have h1 := ho.lt x hx
  have h2 := ho.lt _ h1
  have c1 := hr.cell hx
  have c2 := hr.cell h1
  have HR := Lib.hid hr
  have HL := Lib.hid (And.intro h1 h2)
  have z1 := hr.frozen x
  clear ho hto hr h1 h2
  by_cases e : o' x = x
  · have HS := Lib.hid (show ff C L c = x from by rw [← hff.out]; exact HO.out.stop HF.out hx e)
    have hb : (((o' x : Nat) : Int) != (x : Int)) = false := by simp [e]
    have HE := Lib.hid e
    clear e
    generalize o' x = y at *
    go_wp2_with fail
    go_ret
    exact ⟨by rw [HS.out]; rfl, HT.out, o', HR.out, HO.out⟩
  · have hb : (((o' x : Nat) : Int) != (x : Int)) = true := by rw [bne_iff_ne]; omega
    have HSH := Lib.hid (HO.out.short HF.out hx e)
    have HR2 := Lib.hid (HR.out.set x (o' (o' x)))
    have HT2 := Lib.hid (HT.out.setCell ⟨blk, x, none⟩ (.int .i64 ((o' (o' x) : Nat) : Int)) fun _ => rfl)
    have c3 : (wr.setCell ⟨blk, x, none⟩ (.int .i64 ((o' (o' x) : Nat) : Int))).cell? ⟨blk, x, none⟩ = some (.int .i64 ((o' (o' x) : Nat) : Int)) := World.cell?_setCell_same' _ _ _ (by rw [c1]; rfl)
    have HH : (x : Int) < (C : Int) := by omega
    have HL2 : ((o' x : Nat) : Int) < (C : Int) := by have := HL.out.1; omega
    have hxl : o' x < C := HL.out.1
    clear e
    go_wp2_with fail
    go_roundw
    case rel => exact ⟨o' (o' x), _, HL.out.2, rfl, Lib.hid (HSH.out.2.2.trans hff.out), HR2.out, HSH.out.1, HT2.out⟩
    case measure => simp [intOf]; exact HSH.out.2.1

/-- The items of a slice, k cells each: of an empty one nothing is asked. -/
def Items (w : World) (ao : Option Addr) (n k : Nat) (v : Nat → Nat → Value) : Prop :=
  0 < n → ∃ b off, ao = some ⟨b, off, none⟩ ∧ b < w.heap.size ∧ ∀ i, i < n → ∀ c, c < k → w.cell? ⟨b, off + i * k + c, none⟩ = some (v i c)
theorem Items.keep {w w' : World} {ao : Option Addr} {n k : Nat} {v : Nat → Nat → Value} (h : Items w ao n k v) (hk : 0 < n → ∀ b o, ao = some ⟨b, o, none⟩ → b < w.heap.size → w'.heap[b]? = w.heap[b]?) (hs : w.heap.size ≤ w'.heap.size) : Items w' ao n k v := by
  intro hn
  obtain ⟨b, off, e, hb, hc⟩ := h hn
  refine ⟨b, off, e, by omega, fun i hi c hc' => ?_⟩
  rw [World.cell?_of_block (w := w) (hk hn b off e hb)]
  exact hc i hi c hc'

def BoolPost (r : Bool) (I : World → Prop) (S : Nat → Prop) (w : World) (e : Ending) (w' : World) : Prop := e = .returned (.bool r) ∧ I w' ∧ Touch S w w'

/-- What a layout is told of the function that says which item comes before which: B is where the call's own blocks begin. -/
structure Bef (g : Nat) (cb : Array Value) (item : Nat → Value) (lt : Nat → Nat → Bool) (n B : Nat) (I : World → Prop) (S : Nat → Prop) : Prop where
  enter : ∀ args w, (callFunc g args).run Tryd.prog w = .ok (.enter g args) w
  call : ∀ w (x y : Nat), I w → x < n → y < n → Calls Tryd.prog g (#[item x, item y] ++ cb) w (BoolPost (lt x y) I S w)
  keep : ∀ w w', I w → Below B w w' → I w'
  low : ∀ b, S b → b < B
end Go.Proofs.YticddcnlafbkoaaDoor

/- What a layout is asked and gives. -/
namespace Go.Proofs.YticddcnlafbkoaaDoor
open Go.ChangeShapes Go.WideShapes Go.ChangeAt Go.RowKit Go.Deep

def IntPost (r : Int) (I : World → Prop) (S : Nat → Prop) (w : World) (e : Ending) (w' : World) : Prop := e = .returned (.int .i64 r) ∧ I w' ∧ Touch S w w'

/-- What a layout is told of the function that says where an item begins: I i holds ahead of the call for item i. -/
structure Sta (g : Nat) (cs : Array Value) (item : Nat → Value) (s : Nat → Int) (n B : Nat) (I : Nat → World → Prop) (S : Nat → Prop) : Prop where
  enter : ∀ args w, (callFunc g args).run Tryd.prog w = .ok (.enter g args) w
  call : ∀ w (x : Nat), I x w → x < n → Calls Tryd.prog g (#[item x] ++ cs) w (IntPost (s x) (I (x + 1)) S w)
  keep : ∀ i w w', I i w → Below B w w' → I i w'
  low : ∀ b, S b → b < B

def home (C : Nat) (s : Nat → Int) (i : Nat) : Nat := ((s i) % (C : Int)).toNat
theorem home_lt {C : Nat} (hC : 0 < C) (s : Nat → Int) (i : Nat) : home C s i < C := by
  unfold home
  have h1 := Int.emod_nonneg (s i) (show (C : Int) ≠ 0 by omega)
  have h2 := Int.emod_lt_of_pos (s i) (show (0 : Int) < C by omega)
  omega
theorem home_tmod {C : Nat} (hC : 0 < C) (s : Nat → Int) (i : Nat) : ((s i).tmod (C : Int) + (C : Int)).tmod (C : Int) = ((home C s i : Nat) : Int) := by
  have h1 := Int.emod_nonneg (s i) (show (C : Int) ≠ 0 by omega)
  have h2 := Int.emod_lt_of_pos (s i) (show (0 : Int) < C by omega)
  have e : ((home C s i : Nat) : Int) = (s i) % (C : Int) := by unfold home; omega
  rw [e]
  have key : (s i).tmod (C : Int) = s i % (C : Int) ∨ (s i).tmod (C : Int) = s i % (C : Int) - C := by
    rw [Int.tmod_eq_emod]
    split
    · exact .inl (by simp)
    · exact .inr (by have : (((C : Int).natAbs : Nat) : Int) = (C : Int) := by omega
                     rw [this])
  rcases key with k | k
  · rw [k, Int.tmod_eq_emod_of_nonneg (by omega), Int.add_emod_right, Int.emod_eq_of_lt h1 h2]
  · rw [k, Int.sub_add_cancel, Int.tmod_eq_emod_of_nonneg h1, Int.emod_eq_of_lt h1 h2]

theorem home_parts {C : Nat} (hC : 0 < C) (s : Nat → Int) (i : Nat) : ∃ t : Int, (s i).tmod (C : Int) = t ∧ -(C : Int) < t ∧ t < C ∧ (t + (C : Int)) % (C : Int) = ((home C s i : Nat) : Int) ∧ (t + (C : Int)).tmod (C : Int) = ((home C s i : Nat) : Int) := by
  have h := home_tmod hC s i
  have h1 := Int.emod_nonneg (s i) (show (C : Int) ≠ 0 by omega)
  have h2 := Int.emod_lt_of_pos (s i) (show (0 : Int) < C by omega)
  have key : (s i).tmod (C : Int) = s i % (C : Int) ∨ ((s i).tmod (C : Int) = s i % (C : Int) - C ∧ s i % (C : Int) ≠ 0) := by
    rw [Int.tmod_eq_emod]
    split
    · exact .inl (by simp)
    · rename_i hn
      have : (((C : Int).natAbs : Nat) : Int) = (C : Int) := by omega
      rw [this]
      exact .inr ⟨rfl, fun e => hn (.inr (Int.dvd_of_emod_eq_zero e))⟩
  have b1 : -(C : Int) < (s i).tmod C := by rcases key with k | ⟨k, k'⟩ <;> omega
  have b2 : (s i).tmod (C : Int) < C := by rcases key with k | ⟨k, k'⟩ <;> omega
  refine ⟨_, rfl, b1, b2, ?_, h⟩
  rw [← Int.tmod_eq_emod_of_nonneg (by omega)]; exact h

/-- The layout that is handed back: the items one after another in the order ord, which is the sorted one. -/
def LayPost (C n : Nat) (s : Nat → Int) (lt : Nat → Nat → Bool) (I : World → Prop) (S : Nat → Prop) (w : World) (e : Ending) (w' : World) : Prop :=
  ∃ b ord, e = .returned (.slice (some ⟨b, 0, none⟩) C C) ∧ w.heap.size ≤ b ∧ w'.rowIs b 3 C (fun c => .int .i64 (cellV (place C (home C s) ord n c))) ∧
    PermOn 0 n (fun k => k) ord ∧ Sorted lt ord 0 n ∧ I w' ∧ Touch S w w'

theorem run_equalIn_func (P : Program) (d : Nat) (t : TypeId) (ps rs : Array TypeId) (vd : Bool) (ht : P.underlying t = some (.func ps rs vd)) (f : Fn) (a b : Array Value) (w : World) :
    (Op.equalIn (d + 1) t (.func f a b) .nilFunc).run P w = .ok false w := by
  simp [Op.equalIn, run_underlying ht]
/-- A function against nil. -/
theorem run_eql_func (P : Program) (t : TypeId) (ps rs : Array TypeId) (vd : Bool) (ht : P.underlying t = some (.func ps rs vd)) (f : Fn) (a b : Array Value) (w : World) :
    (binOp .eql t (.func f a b) .nilFunc).run P w = .ok (.bool false) w := by
  simp only [binOp]
  simp [Op.equal, Op.maxDepth, run_equalIn_func P 9999 t ps rs vd ht f a b w]
end Go.Proofs.YticddcnlafbkoaaDoor
