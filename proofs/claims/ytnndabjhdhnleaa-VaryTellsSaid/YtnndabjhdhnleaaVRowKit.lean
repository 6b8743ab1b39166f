/-
  What the walk of vary.Row leans on: boxes, rows of numbers, what holds between two rounds.
-/
import Derived.Test.YtnndabjhdhnleaaVGots
import Derived.Test.YtnndabjhdhnleaaRounds
import Derived.Test.YtnndabjhdhnleaaVPut
namespace Go.Proofs.Ytnndabjhdhnleaa
open Go.RowKit Go.Shelf

attribute [local go_sem] Oper.semAt_some

theorem gots_any (s : ByteArray) (a : Int) (w : World) :
    Calls Try.prog 23 #[.string s, .int .i64 a] w fun e w' => e = .returned (.func (.func 25) #[] #[.pointer (some ⟨w.heap.size + 1, 0, none⟩), .pointer (some ⟨w.heap.size, 0, none⟩)]) ∧ w' = (w.alloc (.cells #[.string s] 9)).alloc (.cells #[.int .i64 a] 3) := by
  go_enter Try.func23, Try.ntmps23
  go_wp2
  go_ret
  exact ⟨rfl, rfl⟩

/-- The block that is turned holds no cells of type t. -/
def OffT (W : World) (row : Option Nat) (t : TypeId) : Prop := ∀ r cs fz, row = some r → W.heap[r]? ≠ some (.cells cs t fz)

theorem off_cells {W : World} {row : Option Nat} {B : Nat} {T t : TypeId} (h : ∀ r, row = some r → B ≤ r ∧ ∃ cs fz, W.heap[r]? = some (.cells cs T fz)) (hne : T ≠ t) : OffT W row t := fun r cs fz e hr => by
  obtain ⟨_, cs', fz', hc⟩ := h r e
  rw [hc] at hr
  cases hr
  exact hne rfl
theorem off_own {W : World} {row : Option Nat} {B : Nat} {t : TypeId} (h : ∀ r, row = some r → B ≤ r ∧ ∃ o : Obj, W.heap[r]? = some o ∧ o.isCells = false) : OffT W row t := fun r cs fz e hr => by
  obtain ⟨_, o, hc, ho⟩ := h r e
  rw [hc] at hr
  cases hr
  cases ho
theorem boxed_off {W W' : World} {row : Option Nat} {b : Nat} {t : TypeId} {v : Value} (h : Boxed W b t v) (hg : W.grownBy W' row) (ho : OffT W row t) : Boxed W' b t v :=
  h.kept hg (fun e => ho b _ _ e.symm h)
theorem owns_off {W W' : World} {row : Option Nat} {base size k : Nat} {e : TypeId} {v : Value} {xs : List Value} (h : W.ownsRow base e size v k xs) (hg : W.grownBy W' row) (ho : OffT W row e) : W'.ownsRow base e size v k xs := by
  refine h.kept hg ?_
  rcases h.2 with ⟨rfl, _⟩ | ⟨g, cap, cur, rfl, _, hgg, _⟩
  · exact .inl rfl
  · exact .inr (fun e => ho g _ _ e.symm hgg)

theorem boxed_drew {W : World} {b : Nat} {t : TypeId} {v : Value} (h : Boxed W b t v) : Boxed W.drew b t v := h

theorem boxed_below {W W' : World} {b : Nat} {t : TypeId} {v : Value} (h : Boxed W b t v) (hb : Below W.heap.size W W') : Boxed W' b t v := (hb.block b h.lt).trans h
theorem off_box {W : World} {b : Nat} {t T : TypeId} {v : Value} (h : Boxed W b t v) (hne : t ≠ T) : OffT W (some b) T := fun r cs fz e hr => by
  cases e
  rw [show W.heap[b]? = _ from h] at hr
  cases hr
  exact hne rfl
theorem keepsCells_grown {W W' : World} {row : Option Nat} {T : TypeId} (hg : W.grownBy W' row) (ho : OffT W row T) : KeepsCells T W W' := fun r cs fz h =>
  (hg.block r (Array.getElem?_eq_some_iff.1 h).1 (fun e => ho r cs fz e.symm h)).trans h

/-- Numbers as cells. -/
def u64s (l : List Nat) : List Value := l.map fun (n : Nat) => Value.int .u64 (n : Int)

theorem i25 : (Try.prog.info? 25).map (fun i => (i.zero, i.size, i.bytes)) = some (some (.int .u64 0), 1, 8) := by kernel_rfl

theorem step_append_known {F : Fence} {n : Nat} {P : Program} {ops : Array Oper} {o : Oper} {a : Act} {w : World} {K : Act → World → Prop} {Q : Exit → Act → World → Prop} {E : Prop}
    (hg : o.guard = none) (s x : Operand) (t : TypeId) (hop : o.op = Op.call { callee := Callee.builtin Builtin.append, args := #[s, x], argTypes := #[t, t] }) (v sl v' : Value) (w1 : World)
    (hs : a.eval s = v) (hx : a.eval x = sl) (hrun : (Builtin.append_ #[t, t] o.type #[v, sl]).run P w = .ok v' w1) (hF : ∀ f, o.about P w a.eval = some f → F.fn f) (hK : K (a.put o.dst v') w1) :
    if Region.wanted o (yielded ops a.tmps) = true then Oper.wpIn F n P o a w K Q else E := by
  have hw : Region.wanted o (yielded ops a.tmps) = true := by simp [Region.wanted, hg]
  rw [if_pos hw]
  refine ⟨hF, ?_⟩
  rw [Oper.semAt_eq _ _ _ (fun c h => by rw [hop] at h; cases h)]
  unfold execOp
  simp only [hop, resolve, invoke, builtin, Sem.run_bind, Sem.run_pure, Result.andThen_ok, List.map_toArray, List.map_cons, List.map_nil, hs, hx, hrun]
  exact hK

theorem owns_cells {W : World} {base : Nat} {e : TypeId} {size k : Nat} {v : Value} {xs : List Value} (h : W.ownsRow base e size v k xs) : ∀ r, v.ownBlock = some r → base ≤ r ∧ ∃ cs fz, W.heap[r]? = some (.cells cs e fz) := by
  intro r hr
  rcases h.2 with ⟨rfl, _⟩ | ⟨g, cap, cur, rfl, hb, hgg, _⟩
  · simp [Value.ownBlock] at hr
  · simp [Value.ownBlock] at hr
    subst hr
    exact ⟨hb, cur, _, hgg⟩

/-- Block b holds a got. -/
def Boxed9 (W : World) (b : Nat) (r : Nat × Int × Nat) : Prop := W.heap[b]? = some (.cells #[.int .u64 (r.1 : Int), .int .i64 r.2.1, .int .i64 (r.2.2 : Int)] 56 (0, 0))

theorem boxed9_off {W W' : World} {row : Option Nat} {b : Nat} {r : Nat × Int × Nat} (h : Boxed9 W b r) (hg : W.grownBy W' row) (ho : OffT W row 56) : Boxed9 W' b r :=
  (hg.block b (Array.getElem?_eq_some_iff.1 h).1 (fun e => ho b _ _ e.symm h)).trans h

structure RowI (L : List UInt8) (s : ByteArray) (a many : Int) (w : World) (b0 b1 b2 b3 b4 : Nat) (x : List Nat × Int) (W : World) : Prop where
  hmany : Boxed W b0 3 (.int .i64 many)
  hlist : ∃ v, Boxed W b1 22 v ∧ W.ownsRow w.heap.size 25 1 v x.1.length (u64s x.1)
  hnext : ∃ y, Boxed W b2 3 y
  herr : ∃ y, Boxed W b3 43 y
  hstr : Boxed W b4 9 (.string s)
  hbelow : Below w.heap.size w W
  hless : (x.1.length : Int) < many
  hrow : Plain.rowFrom L (many.toNat - x.1.length) x.1 x.2 = Plain.row L a many
  hroom : x.1 = [] ∨ ((x.1.length : Int) ≤ x.2 ∧ x.2 ≤ L.length)

structure RowX (L : List UInt8) (a many : Int) (w : World) (b1 b2 b3 : Nat) (c : Code) (W : World) : Prop where
  it : ∃ v p y, Boxed W b1 22 v ∧ Boxed W b2 3 (.int .i64 p) ∧ Boxed W b3 43 y ∧ Below w.heap.size w W ∧
    ((c = .ret ∧ v = .slice none 0 0 ∧ ∃ e : Nat, y = .int .i64 e ∧ Plain.row L a many = ([], p, e)) ∨ (c = .exit 0 ∧ ∃ acc, W.ownsRow w.heap.size 25 1 v acc.length (u64s acc) ∧ Plain.row L a many = (acc, p, 0)))

theorem RowI.turned {L : List UInt8} {s : ByteArray} {a many : Int} {w : World} {b0 b1 b2 b3 b4 : Nat} {x : List Nat × Int} {W W' : World} {row : Option Nat} (h : RowI L s a many w b0 b1 b2 b3 b4 x W) (hg : W.grownBy W' row)
    (h3 : OffT W row 3) (h9 : OffT W row 9) (h22 : OffT W row 22) (h25 : OffT W row 25) (h32 : OffT W row 43) (hB : ∀ r, row = some r → w.heap.size ≤ r) : RowI L s a many w b0 b1 b2 b3 b4 x W' := by
  obtain ⟨v, hv, hr⟩ := h.hlist
  obtain ⟨y, hy⟩ := h.hnext
  obtain ⟨z, hz⟩ := h.herr
  exact ⟨boxed_off h.hmany hg h3, ⟨v, boxed_off hv hg h22, owns_off hr hg h25⟩, ⟨y, boxed_off hy hg h3⟩, ⟨z, boxed_off hz hg h32⟩, boxed_off h.hstr hg h9, h.hbelow.grown hg h.hbelow.size (fun k e => hB k e), h.hless, h.hrow, h.hroom⟩

theorem RowX.turned {L : List UInt8} {a many : Int} {w : World} {b1 b2 b3 : Nat} {c : Code} {W W' : World} {row : Option Nat} (h : RowX L a many w b1 b2 b3 c W) (hg : W.grownBy W' row)
    (h3 : OffT W row 3) (h22 : OffT W row 22) (h25 : OffT W row 25) (h32 : OffT W row 43) (hB : ∀ r, row = some r → w.heap.size ≤ r) : RowX L a many w b1 b2 b3 c W' := by
  obtain ⟨v, p, y, hv, hp, hy, hb, hc⟩ := h.it
  refine ⟨v, p, y, boxed_off hv hg h22, boxed_off hp hg h3, boxed_off hy hg h32, hb.grown hg hb.size (fun k e => hB k e), ?_⟩
  rcases hc with hc | ⟨he, acc, ho, hr⟩
  · exact .inl hc
  · exact .inr ⟨he, acc, owns_off ho hg h25, hr⟩

theorem nums_of_owns {W : World} {base : Nat} {v : Value} {l : List Nat} (h : W.ownsRow base 25 1 v l.length (u64s l)) : Nums W v l := by
  rcases h.2 with ⟨rfl, h0⟩ | ⟨g, cap, cur, rfl, _, hg, _, _, _, ht⟩
  · exact ⟨none, 0, by rw [h0], fun i hi => by omega⟩
  · refine ⟨_, cap, rfl, fun i hi => ⟨g, 0, rfl, ?_⟩⟩
    have hx : (u64s l)[i]? = some (.int .u64 ((l.getD i 0 : Nat) : Int)) := by simp [u64s, hi]
    rw [← ht, List.getElem?_take] at hx
    split at hx
    · rw [Array.getElem?_toList] at hx
      simp [World.cell?, hg, hx]
    · cases hx

theorem nums_nil (W : World) : Nums W (.slice none 0 0) [] := ⟨none, 0, rfl, fun i hi => by simp at hi⟩

end Go.Proofs.Ytnndabjhdhnleaa
