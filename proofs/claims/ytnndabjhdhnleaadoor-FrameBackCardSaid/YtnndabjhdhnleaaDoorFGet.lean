/-
  The walk of frame.Get.
-/
import Derived.Test.YtnndabjhdhnleaaDoorFFirst
import Derived.RangeFuncRecord
import Derived.IntWalk
namespace Go.Proofs.YtnndabjhdhnleaaDoor
open Go.RowKit

theorem opened_tail {s : ByteArray} {k u m : Nat} (hs : k + u + m + 4 ≤ s.size) (h : isSeal (s.extract k (k + u + m + 4)) = true) :
    (opened (s.extract k (k + u + m + 4))).size = u + m ∧ (opened (s.extract k (k + u + m + 4))).extract u (u + m) = s.extract (k + u) (k + u + m) := by
  have hsz : (s.extract k (k + u + m + 4)).size = u + m + 4 := by rw [ByteArray.size_extract]; omega
  have ho : opened (s.extract k (k + u + m + 4)) = s.extract k (k + u + m) := by
    unfold opened
    rw [if_pos h]
    unfold body
    rw [hsz]
    apply ba_ext
    rw [ba_extract, ba_extract, ba_extract, List.drop_zero, List.take_take]
    congr 1
    omega
  rw [ho]
  refine ⟨by rw [ByteArray.size_extract]; omega, ?_⟩
  apply ba_ext
  rw [ba_extract, ba_extract, ba_extract, List.drop_take, List.drop_drop, List.take_take]
  congr 1
  omega

/-- What Get answers, as the program's value. -/
def fgotten (r : ByteArray × Int × Nat) : Value := .tuple #[.string r.1, .int .i64 r.2.1, .int .i64 (r.2.2 : Int)]

theorem getI_start (s : ByteArray) (a : Int) (w : World) : GetI s a w (w.heap.size + 1 + 1 + 1 + 1 + 1 + 1) w.heap.size (w.heap.size + 1) (w.heap.size + 1 + 1) (w.heap.size + 1 + 1 + 1) (w.heap.size + 1 + 1 + 1 + 1) (w.heap.size + 1 + 1 + 1 + 1 + 1) 0
    (((((((w.alloc (.cells #[.string s] 9)).alloc (.cells #[.int .i64 a] 3)).alloc (.cells #[.int .u64 0] 47)).alloc (.cells #[.int .i64 0] 3)).alloc (.cells #[.int .i64 0] 3)).alloc (.cells #[.string ⟨#[]⟩] 9)).alloc (.cells (six w.heap.size (w.heap.size + 1) (w.heap.size + 1 + 1) (w.heap.size + 1 + 1 + 1) (w.heap.size + 1 + 1 + 1 + 1) (w.heap.size + 1 + 1 + 1 + 1 + 1)) 60)) := by
  have x0 : Boxed (((((((w.alloc (.cells #[.string s] 9)).alloc (.cells #[.int .i64 a] 3)).alloc (.cells #[.int .u64 0] 47)).alloc (.cells #[.int .i64 0] 3)).alloc (.cells #[.int .i64 0] 3)).alloc (.cells #[.string ⟨#[]⟩] 9)).alloc (.cells (six w.heap.size (w.heap.size + 1) (w.heap.size + 1 + 1) (w.heap.size + 1 + 1 + 1) (w.heap.size + 1 + 1 + 1 + 1) (w.heap.size + 1 + 1 + 1 + 1 + 1)) 60)) (w.heap.size) 9 (.string s) := by
    have := (((((((Boxed.new w 9 (.string s)).alloc (.cells #[.int .i64 a] 3)).alloc (.cells #[.int .u64 0] 47)).alloc (.cells #[.int .i64 0] 3)).alloc (.cells #[.int .i64 0] 3)).alloc (.cells #[.string ⟨#[]⟩] 9)).alloc (.cells (six w.heap.size (w.heap.size + 1) (w.heap.size + 1 + 1) (w.heap.size + 1 + 1 + 1) (w.heap.size + 1 + 1 + 1 + 1) (w.heap.size + 1 + 1 + 1 + 1 + 1)) 60))
    simpa only [World.size_alloc] using this
  have x1 : Boxed (((((((w.alloc (.cells #[.string s] 9)).alloc (.cells #[.int .i64 a] 3)).alloc (.cells #[.int .u64 0] 47)).alloc (.cells #[.int .i64 0] 3)).alloc (.cells #[.int .i64 0] 3)).alloc (.cells #[.string ⟨#[]⟩] 9)).alloc (.cells (six w.heap.size (w.heap.size + 1) (w.heap.size + 1 + 1) (w.heap.size + 1 + 1 + 1) (w.heap.size + 1 + 1 + 1 + 1) (w.heap.size + 1 + 1 + 1 + 1 + 1)) 60)) (w.heap.size + 1) 3 (.int .i64 a) := by
    have := ((((((Boxed.new (w.alloc (.cells #[.string s] 9)) 3 (.int .i64 a)).alloc (.cells #[.int .u64 0] 47)).alloc (.cells #[.int .i64 0] 3)).alloc (.cells #[.int .i64 0] 3)).alloc (.cells #[.string ⟨#[]⟩] 9)).alloc (.cells (six w.heap.size (w.heap.size + 1) (w.heap.size + 1 + 1) (w.heap.size + 1 + 1 + 1) (w.heap.size + 1 + 1 + 1 + 1) (w.heap.size + 1 + 1 + 1 + 1 + 1)) 60))
    simpa only [World.size_alloc] using this
  have x2 : Boxed (((((((w.alloc (.cells #[.string s] 9)).alloc (.cells #[.int .i64 a] 3)).alloc (.cells #[.int .u64 0] 47)).alloc (.cells #[.int .i64 0] 3)).alloc (.cells #[.int .i64 0] 3)).alloc (.cells #[.string ⟨#[]⟩] 9)).alloc (.cells (six w.heap.size (w.heap.size + 1) (w.heap.size + 1 + 1) (w.heap.size + 1 + 1 + 1) (w.heap.size + 1 + 1 + 1 + 1) (w.heap.size + 1 + 1 + 1 + 1 + 1)) 60)) (w.heap.size + 1 + 1) 47 (.int .u64 0) := by
    have := (((((Boxed.new ((w.alloc (.cells #[.string s] 9)).alloc (.cells #[.int .i64 a] 3)) 47 (.int .u64 0)).alloc (.cells #[.int .i64 0] 3)).alloc (.cells #[.int .i64 0] 3)).alloc (.cells #[.string ⟨#[]⟩] 9)).alloc (.cells (six w.heap.size (w.heap.size + 1) (w.heap.size + 1 + 1) (w.heap.size + 1 + 1 + 1) (w.heap.size + 1 + 1 + 1 + 1) (w.heap.size + 1 + 1 + 1 + 1 + 1)) 60))
    simpa only [World.size_alloc] using this
  have x3 : Boxed (((((((w.alloc (.cells #[.string s] 9)).alloc (.cells #[.int .i64 a] 3)).alloc (.cells #[.int .u64 0] 47)).alloc (.cells #[.int .i64 0] 3)).alloc (.cells #[.int .i64 0] 3)).alloc (.cells #[.string ⟨#[]⟩] 9)).alloc (.cells (six w.heap.size (w.heap.size + 1) (w.heap.size + 1 + 1) (w.heap.size + 1 + 1 + 1) (w.heap.size + 1 + 1 + 1 + 1) (w.heap.size + 1 + 1 + 1 + 1 + 1)) 60)) (w.heap.size + 1 + 1 + 1) 3 (.int .i64 0) := by
    have := ((((Boxed.new (((w.alloc (.cells #[.string s] 9)).alloc (.cells #[.int .i64 a] 3)).alloc (.cells #[.int .u64 0] 47)) 3 (.int .i64 0)).alloc (.cells #[.int .i64 0] 3)).alloc (.cells #[.string ⟨#[]⟩] 9)).alloc (.cells (six w.heap.size (w.heap.size + 1) (w.heap.size + 1 + 1) (w.heap.size + 1 + 1 + 1) (w.heap.size + 1 + 1 + 1 + 1) (w.heap.size + 1 + 1 + 1 + 1 + 1)) 60))
    simpa only [World.size_alloc] using this
  have x4 : Boxed (((((((w.alloc (.cells #[.string s] 9)).alloc (.cells #[.int .i64 a] 3)).alloc (.cells #[.int .u64 0] 47)).alloc (.cells #[.int .i64 0] 3)).alloc (.cells #[.int .i64 0] 3)).alloc (.cells #[.string ⟨#[]⟩] 9)).alloc (.cells (six w.heap.size (w.heap.size + 1) (w.heap.size + 1 + 1) (w.heap.size + 1 + 1 + 1) (w.heap.size + 1 + 1 + 1 + 1) (w.heap.size + 1 + 1 + 1 + 1 + 1)) 60)) (w.heap.size + 1 + 1 + 1 + 1) 3 (.int .i64 0) := by
    have := (((Boxed.new ((((w.alloc (.cells #[.string s] 9)).alloc (.cells #[.int .i64 a] 3)).alloc (.cells #[.int .u64 0] 47)).alloc (.cells #[.int .i64 0] 3)) 3 (.int .i64 0)).alloc (.cells #[.string ⟨#[]⟩] 9)).alloc (.cells (six w.heap.size (w.heap.size + 1) (w.heap.size + 1 + 1) (w.heap.size + 1 + 1 + 1) (w.heap.size + 1 + 1 + 1 + 1) (w.heap.size + 1 + 1 + 1 + 1 + 1)) 60))
    simpa only [World.size_alloc] using this
  have x5 : Boxed (((((((w.alloc (.cells #[.string s] 9)).alloc (.cells #[.int .i64 a] 3)).alloc (.cells #[.int .u64 0] 47)).alloc (.cells #[.int .i64 0] 3)).alloc (.cells #[.int .i64 0] 3)).alloc (.cells #[.string ⟨#[]⟩] 9)).alloc (.cells (six w.heap.size (w.heap.size + 1) (w.heap.size + 1 + 1) (w.heap.size + 1 + 1 + 1) (w.heap.size + 1 + 1 + 1 + 1) (w.heap.size + 1 + 1 + 1 + 1 + 1)) 60)) (w.heap.size + 1 + 1 + 1 + 1 + 1) 9 (.string ⟨#[]⟩) := by
    have := ((Boxed.new (((((w.alloc (.cells #[.string s] 9)).alloc (.cells #[.int .i64 a] 3)).alloc (.cells #[.int .u64 0] 47)).alloc (.cells #[.int .i64 0] 3)).alloc (.cells #[.int .i64 0] 3)) 9 (.string ⟨#[]⟩)).alloc (.cells (six w.heap.size (w.heap.size + 1) (w.heap.size + 1 + 1) (w.heap.size + 1 + 1 + 1) (w.heap.size + 1 + 1 + 1 + 1) (w.heap.size + 1 + 1 + 1 + 1 + 1)) 60))
    simpa only [World.size_alloc] using this
  have x6 : sixCells (w.heap.size + 1 + 1 + 1 + 1 + 1 + 1) w.heap.size (w.heap.size + 1) (w.heap.size + 1 + 1) (w.heap.size + 1 + 1 + 1) (w.heap.size + 1 + 1 + 1 + 1) (w.heap.size + 1 + 1 + 1 + 1 + 1) (((((((w.alloc (.cells #[.string s] 9)).alloc (.cells #[.int .i64 a] 3)).alloc (.cells #[.int .u64 0] 47)).alloc (.cells #[.int .i64 0] 3)).alloc (.cells #[.int .i64 0] 3)).alloc (.cells #[.string ⟨#[]⟩] 9)).alloc (.cells (six w.heap.size (w.heap.size + 1) (w.heap.size + 1 + 1) (w.heap.size + 1 + 1 + 1) (w.heap.size + 1 + 1 + 1 + 1) (w.heap.size + 1 + 1 + 1 + 1 + 1)) 60)) := by
    have := World.alloc_heap_new ((((((w.alloc (.cells #[.string s] 9)).alloc (.cells #[.int .i64 a] 3)).alloc (.cells #[.int .u64 0] 47)).alloc (.cells #[.int .i64 0] 3)).alloc (.cells #[.int .i64 0] 3)).alloc (.cells #[.string ⟨#[]⟩] 9)) (.cells (six w.heap.size (w.heap.size + 1) (w.heap.size + 1 + 1) (w.heap.size + 1 + 1 + 1) (w.heap.size + 1 + 1 + 1 + 1) (w.heap.size + 1 + 1 + 1 + 1 + 1)) 60)
    unfold sixCells
    simpa only [World.size_alloc] using this
  refine ⟨0, 0, 0, _, x6, x0, x1, x2, x3, x4, x5, ?_, fun _ => by omega, fun _ => by omega, fun _ => by omega, fun _ => by omega, fun _ => by omega, fun _ => by omega⟩
  exact (((((((Below.refl _ w).alloc (Nat.le_refl _) _).alloc (by simp) _).alloc (by simp; omega) _).alloc (by simp; omega) _).alloc (by simp; omega) _).alloc (by simp; omega) _).alloc (by simp; omega) _

set_option maxHeartbeats 1000000 in
theorem fget_any (s : ByteArray) (a : Int) (w : World) (hF : Fours w) (hsz : s.size ≤ 1000000) :
    Calls Tryd.prog 16 #[.string s, .int .i64 a] w fun e w' => e = .returned (fgotten (fget s a)) ∧ Below w.heap.size w w' := by
  have h0 := getI_start s a w
  have q := get_first s a w _ _ _ _ _ _ _ _ hF hsz (Nat.le_refl _) (by omega) (by omega) (by omega) (by omega) (by omega) (by omega) h0
  unfold six at q
  clear h0
  go_enter Tryd.func16, Tryd.ntmps16
  go_wp2_with (go_at_call 28; go_must (refine q.mono ?_); rintro e w1 (⟨rfl, hI⟩ | ⟨x, hx, rfl, hX⟩))
  · clear q
    obtain ⟨m, f, h, o, c, cs, ca, cm, cf, ch, co, hb, k1, k2, k3, k4, k5, k6⟩ := hI.it
    have k1' := k1 (by omega)
    have k2' := k2 (by omega)
    have k3' := k3 (by omega)
    have k4' := k4 (by omega)
    obtain ⟨k5a, k5b⟩ := k5 (by omega)
    obtain ⟨k6a, k6b⟩ := k6 (by omega)
    have hres := fget_ok k1'.1 k2' k3' k4' (by omega) k6a
    obtain ⟨k', u, hk, hn, hu, hku, _⟩ := Plain.get_ok (s := s.data.toList) (p := a) (by rw [k3'])
    rw [k3'] at hn
    dsimp only at hn
    subst hk hn
    rw [Int.toNat_natCast] at k5a k5b k6a k6b hres
    rw [Int.toNat_natCast] at k6a k6b
    obtain ⟨ho1, ho2⟩ := opened_tail k5b k6a
    rw [← k6b] at ho1 ho2
    obtain ⟨P, hP⟩ : ∃ P, s.extract (k' + u) (k' + u + m) = P := ⟨_, rfl⟩
    rw [hP] at ho2 hres
    rw [← ho1] at ho2
    have hd : IntKind.i64.wrap (((k' + u : Nat) : Int) - (k' : Int)) = (u : Int) := by rw [IntWalk.i64_in _ (by omega)]; omega
    have c1 := ca.cell
    have c2 := cf.cell
    have c3 := ch.cell
    have c4 := co.cell
    rw [k5a] at c3
    have i1 : (u : Int) ≤ (o.size : Int) := by omega
    obtain ⟨Fv, hFv⟩ : ∃ Fv : Nat, k' + u = Fv := ⟨_, rfl⟩
    obtain ⟨Hv, hHv⟩ : ∃ Hv : Nat, k' + u + m + 4 = Hv := ⟨_, rfl⟩
    rw [hHv] at c3 hres
    have HR := Lib.hid hres
    rw [hFv] at hd c2
    clear c cs ca cm cf ch co k1 k2 k3 k4 k5 k6 k1' k2' k3' k4' k5a k5b k6a k6b hres hP hku hI hFv hHv ho1
    go_wp2
    go_quiet (fail)
    go_wp2
    go_ret3
    exact ⟨by rw [HR.out]; rfl, below_drewN hb _⟩
  · obtain ⟨ha, hb, he⟩ := hX
    have c1 := ha.cell
    have HR := Lib.hid he
    have hx' : ((x : Int) != 0) = true := by simp; omega
    clear ha q he
    go_wp2
    go_quiet (fail)
    go_wp2
    go_ret3
    exact ⟨by rw [HR.out]; rfl, below_drewN hb _⟩
end Go.Proofs.YtnndabjhdhnleaaDoor
