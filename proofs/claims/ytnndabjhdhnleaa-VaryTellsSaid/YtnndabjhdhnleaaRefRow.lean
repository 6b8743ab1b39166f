/-
  The walks of the document's answer for layer 2: All, Row.
-/
import Derived.Test.YtnndabjhdhnleaaRef2
import Derived.Test.YtnndabjhdhnleaaVRowKit
namespace Go.Proofs.Ytnndabjhdhnleaa
open Go.RowKit

set_option maxHeartbeats 1000000 in
theorem refAll_any (l : List Nat) (v : Value) (w : World) (h : Nums w v l) (hl : ∀ n ∈ l, n < 18446744073709551616) (hlen : l.length ≤ 1000000) :
    Calls Try.prog 5 #[v] w fun e w' => e = .returned (.string ⟨(Plain.encs l).toArray⟩) ∧ Below w.heap.size w w' := by
  obtain ⟨ad, c, rfl, hc⟩ := h
  go_enter Try.func5, Try.ntmps5
  go_wp2
  go_loopw [3, 4] (fun x i wr => ∃ (k : Nat) (S : ByteArray), k ≤ l.length ∧ i = .int .i64 k ∧ x = .string S ∧ S.data.toList = Plain.encs (l.take k) ∧ Below w.heap.size w wr) (fun _ i _ => l.length - (intOf i).toNat)
  case atStart => exact ⟨0, ⟨#[]⟩, Nat.zero_le _, rfl, rfl, by simp [Plain.encs], Below.refl _ _⟩
  case round =>
    obtain ⟨k, S, hk, rfl, rfl, hS, hb⟩ := hrel
    by_cases hlt : k < l.length
    · obtain ⟨b, o, rfl, hcell⟩ := hc k hlt
      have hcell' : wr.cell? ⟨b, o + k, none⟩ = some (.int .u64 ((l.getD k 0 : Nat) : Int)) := by rw [hb.cell (p := ⟨b, o + k, none⟩) (block_lt_of_cell hcell)]; exact hcell
      have hx : l.getD k 0 < 18446744073709551616 := hl _ (by simp [List.getD, hlt])
      have htk := encs_length_le (l.take k) (fun n hn => hl n (List.mem_of_mem_take hn))
      have hnext := encs_take_succ hlt
      obtain ⟨x, hxe⟩ : ∃ x, x = l.getD k 0 := ⟨_, rfl⟩
      rw [← hxe] at hcell' hx hnext
      have hSs : S.size ≤ 9000000 := by
        rw [← hS, ba_length, List.length_take] at htk; omega
      obtain ⟨E, hE⟩ : ∃ E : ByteArray, E = ⟨(Plain.enc x).toArray⟩ := ⟨_, rfl⟩
      have hEl : E.data.toList = Plain.enc x := by rw [hE]
      have hEs : E.size ≤ 9 := by rw [← ba_length, hEl, Plain.enc_length]; exact (Plain.size_bounds hx).2
      have q7 : ∀ w0, Calls Try.prog 7 #[.int .u64 x] w0 fun e w' => e = .returned (.string E) ∧ Below w0.heap.size w0 w' := fun w0 => hE ▸ refPut_any x w0 hx
      have HS := Lib.hid hS
      have HN := Lib.hid hnext
      have HE := Lib.hid hEl
      clear hS hnext hE hEl hxe htk hcell hc hl
      go_wp2_with (go_at_call 7; go_must (refine (q7 _).mono ?_); rintro e w1 ⟨rfl, hb1⟩)
      exact ⟨⟨k + 1, S ++ E, by omega, by go_num, rfl, by rw [ba_append, HS.out, HE.out, HN.out], Below.next hb hb1⟩, by simp [intOf]; omega⟩
    · obtain rfl : k = l.length := by omega
      rw [List.take_length] at hS
      have HS := Lib.hid hS
      clear hS
      go_wp2
      go_ret
      exact ⟨by rw [← HS.out]; rfl, hb⟩

theorem rowFrom_succ (s : List UInt8) (k : Nat) (acc : List Nat) (p : Int) : Plain.rowFrom s (k + 1) acc p = if (Plain.get s p).2.2 = 0 then Plain.rowFrom s k (acc ++ [(Plain.get s p).1]) (Plain.get s p).2.1 else ([], (Plain.get s p).2.1, (Plain.get s p).2.2) := rfl

/-- What Row answers. -/
def RowAns (w : World) (r : List Nat × Int × Nat) (e : Ending) (w' : World) : Prop :=
  ∃ v, e = .returned (.tuple #[v, .int .i64 r.2.1, .int .i64 (r.2.2 : Nat)]) ∧ Nums w' v r.1 ∧ Below w.heap.size w w'

set_option maxHeartbeats 2000000 in
theorem refRow_any (s : ByteArray) (a many : Int) (w : World) (hs : s.size ≤ 1000000) (hm : many ≤ 1000000) :
    Calls Try.prog 19 #[.string s, .int .i64 a, .int .i64 many] w (RowAns w (Plain.row s.data.toList a many)) := by
  obtain ⟨L, hL⟩ : ∃ L, L = s.data.toList := ⟨_, rfl⟩
  have q17 : ∀ p w0, Calls Try.prog 17 #[.string s, .int .i64 p] w0 fun e w' => e = .returned (gotten (Plain.get L p)) ∧ Below w0.heap.size w0 w' := fun p w0 => hL ▸ refGet_any s p w0 (by unfold maxLen; omega)
  rw [← hL]
  obtain ⟨i0, hi, hz0, hz1, hz2⟩ := info_parts i25
  obtain ⟨R, hR⟩ : ∃ R, R = Plain.row L a many := ⟨_, rfl⟩
  have HR := Lib.hid hR
  rw [← hR]
  clear hR hL
  go_enter Try.func19, Try.ntmps19
  go_wp2
  go_loopw [1, 9, 10] (fun x v i wr => ∃ (acc : List Nat) (p : Int), ((acc.length : Int) ≤ many ∨ acc = []) ∧ i = .int .i64 acc.length ∧ x = .int .i64 p ∧ wr.ownsRow w.heap.size 25 1 v acc.length (u64s acc) ∧ Plain.rowFrom L (many.toNat - acc.length) acc p = R ∧ Below w.heap.size w wr) (fun _ _ i _ => (many - intOf i).toNat)
  case atStart => exact ⟨[], a, .inr rfl, rfl, rfl, by simpa [u64s] using World.ownsRow_nil w w.heap.size 25 1, by rw [HR.out]; rfl, Below.refl _ _⟩
  case round =>
    obtain ⟨acc, p, hlen, rfl, rfl, hown, hrow, hb⟩ := hrel
    obtain ⟨k, hk⟩ : ∃ k, k = acc.length := ⟨_, rfl⟩
    have hlen' : (k : Int) ≤ many ∨ k = 0 := by
      rcases hlen with h | h
      · exact .inl (by omega)
      · exact .inr (by rw [hk, h]; rfl)
    have hk1 : k ≤ 1000000 := by omega
    rw [← hk] at hrow hown ⊢
    have HK := Lib.hid hk
    clear hk hlen
    by_cases hlt : (k : Int) < many
    · rw [show many.toNat - k = (many.toNat - (k + 1)) + 1 by omega, rowFrom_succ] at hrow
      have g17 := q17 p
      unfold gotten at g17
      have hbad := Plain.get_bad (s := L) (p := p)
      obtain ⟨r, hr⟩ : ∃ r, Plain.get L p = r := ⟨_, rfl⟩
      rw [hr] at g17 hrow hbad
      obtain ⟨n9, p9, e9⟩ := r
      dsimp only at g17 hrow hbad
      have hn9 : n9 < 18446744073709551616 := by have := Plain.get_lt L p; rw [hr] at this; exact this
      clear hr q17
      by_cases he : e9 = 0
      · subst he
        rw [if_pos rfl] at hrow
        have HROW := Lib.hid hrow
        have g17' : ∀ w0, Calls Try.prog 17 #[.string s, .int .i64 p] w0 fun e w' => e = .returned (.tuple #[.int .u64 n9, .int .i64 p9, .int .i64 0]) ∧ Below w0.heap.size w0 w' := g17
        clear hrow hbad g17
        go_wp2_with (first
          | (go_at_call 17; go_must (with_reducible refine (g17' _).mono ?_); rintro e w1 ⟨rfl, hb1⟩; replace hown := hown.kept (grown_of_below hb1) (by cases Value.ownBlock _ <;> simp); replace hb := Below.next hb hb1; clear hb1)
          | (at_builtin; refine wpList_append_own _ rfl _ _ 22 rfl w.heap.size 25 i0 (.int .u64 0) 1 8 Try.underlying22 hi hz0 hz1 hz2 rfl (by decide) _ _ _ rfl (hown.alloc _) ⟨w1.heap.size, 0, none⟩ 1 1 [.int .u64 (n9 : Int)] rfl rfl ?c1 ?c2 ?c3 ?c4 ?c5 ?_))
        case c1 =>
          intro j u hj
          cases j with
          | zero => simp at hj; subst hj; simp [go_sem, Addr.add]
          | succ j => simp at hj
        case c2 => intro u hu; simp at hu; subst hu; rfl
        case c3 => unfold maxLen; omega
        case c4 => omega
        case c5 => have := hb.size; simp; omega
        intro v' w2 hown2 hgrow _
        have hb2 : Below w.heap.size w w2 := (hb.alloc hb.size _).grown hgrow (by have := hb.size; simp; omega) (fun k hk => (hown.lt k hk).1)
        go_wp2
        refine ⟨⟨acc ++ [n9], p9, ?_, ?_, rfl, ?_, ?_, hb2⟩, by simp [intOf]; omega⟩
        · left; rw [List.length_append, ← HK.out]; simp; omega
        · rw [List.length_append, ← HK.out]; simp
        · rw [List.length_append, ← HK.out]; simpa [u64s] using hown2
        · rw [List.length_append, ← HK.out]; exact HROW.out
      · rw [if_neg he] at hrow
        obtain ⟨h0, h1⟩ := hbad he
        subst h0 h1
        have he3 : ((e9 : Int) != 0) = true := by simp; omega
        have HROW := Lib.hid hrow
        clear hrow hbad he
        go_wp2_with (go_at_call 17; go_must (with_reducible refine (g17 _).mono ?_); rintro e w1 ⟨rfl, hb1⟩; replace hb := Below.next hb hb1; clear hb1)
        go_ret3
        refine ⟨.slice none 0 0, ?_, ?_, hb⟩
        · rw [← HROW.out]; rfl
        · rw [← HROW.out]; exact nums_nil _
    · rw [show many.toNat - k = 0 by omega] at hrow
      have HROW := Lib.hid hrow
      clear hrow
      go_wp2
      go_ret3
      have hn := nums_of_owns (HK.out ▸ hown)
      exact ⟨_, by rw [← HROW.out]; rfl, by rw [← HROW.out]; exact hn, hb⟩
end Go.Proofs.Ytnndabjhdhnleaa
