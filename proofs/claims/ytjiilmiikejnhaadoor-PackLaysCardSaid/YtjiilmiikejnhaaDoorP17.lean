/-
  errors.Is at a fault and its own code.
-/
import Derived.Test.YtjiilmiikejnhaaDoorP16
import Derived.Lib.IfaceEq
set_option linter.unusedVariables false
set_option linter.unusedSimpArgs false
namespace Go.Proofs.YtjiilmiikejnhaaDoor
open Go.RowKit Go.Extern.Stop Go.Stop Go.Extern

theorem is_tO (v : Value) (w : World) : (Extern.ReflectliteType.typeOf #[.iface 32 v]).run Tryd.prog w = .ok (.iface 157 (.agg #[.pointer (some ⟨2, 32, none⟩)])) w := by kernel_rfl
def cpF (t : TypeId) : Sem Value := do
  Extern.Rtype.noPackHeld "Comparable" t
  pure (.bool (← typeInfo t).comparable)
theorem is_cp (w : World) : (Extern.ReflectliteType.method cpF #[.agg #[.pointer (some ⟨2, 32, none⟩)]]).run Tryd.prog w = .ok (.bool true) w := by kernel_rfl
theorem is_mC (v : Value) (w : World) : (Go.method 303 157 v "Comparable").run Tryd.prog w = .ok (121, v) w := by kernel_rfl
theorem is_noIs (v : Value) (xT : TypeId) (w : World) : (Instr.typeAssert (.iface 88 v) xT 169 true).run Tryd.prog w = .ok (.tuple #[.nilIface, .bool false]) w := run_typeAssert_lacksB Tryd.underlying169 (by kernel_rfl) (by kernel_rfl) v xT w
theorem is_unwrap (v : Value) (xT : TypeId) (w : World) : (Instr.typeAssert (.iface 88 v) xT 164 true).run Tryd.prog w = .ok (.tuple #[.iface 88 v, .bool true]) w := run_typeAssert_hasB Tryd.underlying164 (by kernel_rfl) v xT w
theorem is_mU (v : Value) (w : World) : (Go.method 303 88 v "Unwrap").run Tryd.prog w = .ok (114, v) w := by kernel_rfl
theorem is_comp : (Tryd.prog.info? 32).map (·.comparable) = some true := by kernel_rfl

set_option maxHeartbeats 1000000 in
theorem is_fault (p c : Nat) (x : Int) (w : World) (h : w.cell? ⟨p, 0, none⟩ = some (.int .i64 x)) :
    Calls Tryd.prog 44 #[.iface 88 (.pointer (some ⟨p, 0, none⟩)), .iface 32 (.int .i64 x)] w fun e w' => e = .returned (.bool true) ∧ w' = w := by
  have h8 := @run_callFunc_extern Tryd.prog 66 _ Extern.ReflectliteType.typeOf Tryd.func66 (by kernel_rfl) (by kernel_rfl) (by kernel_rfl) (by kernel_rfl)
  have h32 := @run_callFunc_extern Tryd.prog 121 _ (Extern.ReflectliteType.method cpF) Tryd.func121 (by kernel_rfl) (by kernel_rfl) (by kernel_rfl) (by kernel_rfl)
  have tT := is_tO
  have cT := is_cp
  have mR := is_mC
  have nE := is_noIs
  have uW := is_unwrap
  have mU := is_mU
  have hty := run_eql_iface_types (P := Tryd.prog) 88 32 (.pointer (some ⟨p, 0, none⟩)) (.int .i64 x) Tryd.underlying52 (by decide) w
  have heq : (binOp .eql 52 (.iface 32 (.int .i64 x)) (.iface 32 (.int .i64 x))).run Tryd.prog w = .ok (.bool true) w := by
    have := Lib.run_eql_iface_int (k := .i64) w x x Tryd.underlying52 is_comp Tryd.underlying32
    simpa using this
  go_enter Tryd.func44, Tryd.ntmps44
  go_wp2
  refine wp_loop_rounds 2 ?_
  rw [rounds_succ]
  go_wp2
  rw [rounds_succ]
  go_wp2
  go_ret
  exact ⟨rfl, rfl⟩
end Go.Proofs.YtjiilmiikejnhaaDoor
