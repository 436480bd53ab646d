import Derived.Test.YtabjpejgnfeegaaPlayE
import Derived.Test.YtabjpejgnfeegaaPlayG
import Derived.Test.YtabjpejgnfeegaaPlayH
import Derived.Test.YtabjpejgnfeegaaPlayI
/- SlotsPlays: whatever the law does in a round; the table with which it begins. -/
namespace Go.Proofs.Ytabjpejgnfeegaa
open Go.ChangeShapes Go.WideShapes Go.ChangeAt Go.RowKit Go.Deep

theorem kinds8 {kd : Int} (h0 : 0 ≤ kd) : kd.tmod 8 = 0 ∨ kd.tmod 8 = 1 ∨ kd.tmod 8 = 2 ∨ kd.tmod 8 = 3 ∨ kd.tmod 8 = 4 ∨ kd.tmod 8 = 5 ∨ kd.tmod 8 = 6 ∨ kd.tmod 8 = 7 := by
  rw [Int.tmod_eq_emod_of_nonneg h0]; omega
theorem does_made {R Z : Nat → Prop} {B0 m : Nat} {n C : Nat} {T : Cells} {L : KVs} {w : World} {p : Option Addr} {seed : Int} {la : Option Addr} {ln lc : Nat} {kd : Int} {ka va : Option Addr} {kl kc vl vc : Nat} {key val : Key} (hk : BV w (.slice ka kl kc) key) (hv : BV w (.slice va vl vc) val) (hkl : key.length ≤ 1200) (hvl : val.length ≤ 1200) (h : StR R Z B0 w (.pointer p) seed (.slice la ln lc) n C T L) (hB : B0 ≤ w.heap.size) (hm : L.length + 1 ≤ m) (hm2 : m ≤ 1000) (h0 : 0 ≤ kd) :
    Calls Try.prog 33 #[.pointer p, .int .u64 seed, .slice la ln lc, .agg #[.int .i64 kd, .slice ka kl kc, .slice va vl vc], .bool true] w (DoesP B0 m (.pointer p) seed w) := by
  rcases kinds8 h0 with e | e | e | e | e | e | e | e
  · cases ha : allowB key val with
    | true => exact does0_ok hk hv hkl hvl h hB hm hm2 e ha
    | false => exact does0_bad hk hv hkl hvl h hB hm hm2 e ha
  · cases hg : getP L key with
    | none => exact does1_none hk hv hkl hvl h hB hm hm2 e hg
    | some v => exact does1_some hk hv hkl hvl h hB hm hm2 e hg
  · cases hg : getP L key with
    | none => exact does2_none hk hv hkl hvl h hB hm hm2 e hg
    | some v => exact does2_some hk hv hkl hvl h hB hm hm2 e hg
  · exact does7 hk hv hkl hvl h hB hm hm2 e rfl rfl rfl rfl rfl rfl
  · exact does4 hk hv hkl hvl h hB hm hm2 e
  · exact does5 hk hv hkl hvl h hB hm hm2 e
  · exact does6 hk hv hkl hvl h hB hm hm2 e
  · exact does7 hk hv hkl hvl h hB hm hm2 e rfl rfl rfl rfl rfl rfl
theorem does_void {Z : Nat → Prop} {w : World} {p : Option Addr} {seed : Int} {la : Option Addr} {lc : Nat} {kd : Int} {ka va : Option Addr} {kl kc vl vc : Nat} {key val : Key} (hk : BV w (.slice ka kl kc) key) (hv : BV w (.slice va vl vc) val) (hkl : key.length ≤ 1200) (hvl : val.length ≤ 1200) (hvoid : Void w (.pointer p)) (hlz : LZ Z w (.slice la 0 lc) ([] : KVs)) (h0 : 0 ≤ kd) :
    Calls Try.prog 33 #[.pointer p, .int .u64 seed, .slice la 0 lc, .agg #[.int .i64 kd, .slice ka kl kc, .slice va vl vc], .bool false] w (DoesV (.slice la 0 lc) w) := by
  rcases kinds8 h0 with e | e | e | e | e | e | e | e
  · exact doesV0 hk hv hkl hvl hvoid hlz e
  · exact doesV1 hk hv hkl hvl hvoid hlz e
  · exact doesV2 hk hv hkl hvl hvoid hlz e
  · exact doesV7 hk hv hkl hvl hvoid hlz e rfl rfl rfl rfl rfl rfl
  · exact doesV4 hk hv hkl hvl hvoid hlz e
  · exact doesV5 hk hv hkl hvl hvoid hlz e
  · exact doesV6 hk hv hkl hvl hvoid hlz e
  · exact doesV7 hk hv hkl hvl hvoid hlz e rfl rfl rfl rfl rfl rfl

set_option maxHeartbeats 1000000 in
theorem table_new (seed k z : Int) (hk : k.tmod 8 = z) (z1 : (z == (1 : Int)) = false) (z2 : (z == (2 : Int)) = false) (w : World) : Calls Try.prog 29 #[.int .u64 seed, .int .u8 k] w (NewPost seed w) := by
  have HN := Lib.hid (fun w => new_any seed w)
  go_enter Try.func29, Try.ntmps29
  go_wp2_with fail
  refine (HN.out _).mono ?_
  rintro e w' ⟨t, rfl, hT, ht⟩
  go_wp2_with fail
  go_ret
  exact ⟨t, rfl, hT, ht⟩
def VoidP (w : World) (e : Ending) (w' : World) : Prop := ∃ p, e = .returned (.pointer p) ∧ Void w' (.pointer p) ∧ Touch Nil w w'
set_option maxHeartbeats 1000000 in
theorem table_nil (seed k : Int) (hk : k.tmod 8 = 1) (w : World) : Calls Try.prog 29 #[.int .u64 seed, .int .u8 k] w (VoidP w) := by
  go_enter Try.func29, Try.ntmps29
  go_wp2_with fail
  go_ret
  exact ⟨none, rfl, ⟨none, rfl, .inl rfl⟩, Touch.refl _ _⟩
set_option maxHeartbeats 1000000 in
theorem table_zero (seed k : Int) (hk : k.tmod 8 = 2) (w : World) : Calls Try.prog 29 #[.int .u64 seed, .int .u8 k] w (VoidP w) := by
  go_enter Try.func29, Try.ntmps29
  go_wp2_with fail
  go_ret
  exact ⟨some ⟨w.heap.size, 0, none⟩, rfl, ⟨_, rfl, .inr ⟨_, rfl, by rw [cell_new]; rfl⟩⟩, (Touch.refl Nil w).alloc _⟩
theorem lz_empty {w : World} {b : Nat} (hb : b < w.heap.size) : LZ (fun c => c = b) w (.slice (some ⟨b, 0, none⟩) 0 0) ([] : KVs) :=
  ⟨⟨some ⟨b, 0, none⟩, 0, fun _ _ => .bool false, rfl, Nat.le_refl _, (fun e => by cases e), (fun h => absurd h (by simp)), (fun i a h => by simp at h)⟩, fun c hc => by simpa [OwnOf, Value.ownBlock] using hc, fun c hc => by subst hc; exact hb⟩
end Go.Proofs.Ytabjpejgnfeegaa
