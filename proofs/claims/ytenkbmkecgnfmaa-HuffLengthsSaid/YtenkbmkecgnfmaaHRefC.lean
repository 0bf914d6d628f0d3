/- Rows of items: the first of a row, a row anew, one put in between. -/
import Derived.Test.YtenkbmkecgnfmaaHRefI
import Derived.Test.YtenkbmkecgnfmaaHRefM
namespace Go.Proofs.Ytenkbmkecgnfmaa.Huf
open Go.RowKit Go.Shelf Go.Lib Go.Proofs.Ytenkbmkecgnfmaa.Mem

theorem OwnIt.only {e : TypeId} {S : Nat → Prop} {W W' : World} {B : Nat} {v : Value} {xs : List ItV} (h : OwnIt e W B v xs) (ho : Only S W W') (hs : ∀ g, v.ownBlock = some g → ¬ S g) (hx : ∀ x ∈ xs, ∀ a, x.ba = some a → ¬ S a.block) : OwnIt e W' B v xs :=
  ⟨own_only h.row ho hs, fun x h' => (h.its x h').only ho (hx x h'), h.sep⟩
theorem OwnIt.cut {e : TypeId} {W : World} {B n cap : Nat} {ao : Option Addr} {xs : List ItV} (h : OwnIt e W B (.slice ao n cap) xs) (hn : n = xs.length) (k : Nat) (hk : k ≤ n) : OwnIt e W B (.slice ao k cap) (xs.take k) := by
  refine ⟨⟨?_, ?_⟩, fun x hx => h.its x (List.mem_of_mem_take hx), fun x hx a ha e' => h.sep x (List.mem_of_mem_take hx) a ha (by cases ao with | none => cases e' | some q => exact e')⟩
  · rw [itsCells_len]
  · have hl : (xs.take k).length = k := by rw [List.length_take]; omega
    rw [hl]
    rcases h.row.2 with ⟨hv, h0⟩ | ⟨g, c, cur, hv, h1, h2, h3, h4, h5, h6⟩
    · cases hv
      exact .inl ⟨by rw [show k = 0 by omega], by omega⟩
    · cases hv
      refine .inr ⟨g, cap, cur, rfl, h1, h2, by omega, h4, h5, ?_⟩
      have hs : itsCells xs = itsCells (xs.take k) ++ itsCells (xs.drop k) := by rw [← itsCells_append, List.take_append_drop]
      have := congrArg (List.take (k * 2)) h6
      rw [List.take_take, Nat.min_eq_left (by omega), hs, List.take_append_of_le_length (by rw [itsCells_len, hl]; exact Nat.le_refl _)] at this
      rw [this, List.take_of_length_le (by rw [itsCells_len, hl]; exact Nat.le_refl _)]

section
variable {T e : TypeId} (hU : Try.prog.underlying T = some (.slice e)) (hinfo : (Try.prog.info? e).map (fun i => (i.zero, i.size, i.bytes)) = some (some (.agg #[.int .i64 0, .slice none 0 0]), 2, 32))
include hU hinfo
/-- 'append([]item{}, items...)'. -/
theorem fresh_it (w : World) (y : Value) (ys : List ItV) (hy : SrcIt w y ys) (hlim : ys.length ≤ 1048576) :
    ∃ v W', (Builtin.append_ #[T, T] T #[.slice (some ⟨w.heap.size, 0, none⟩) 0 0, y]).run Try.prog (w.alloc (.cells #[] e)) = .ok v W' ∧ OwnIt e W' w.heap.size v ys ∧ Below w.heap.size w W' := by
  have own0 : OwnIt e (w.alloc (.cells #[] e)) w.heap.size (.slice (some ⟨w.heap.size, 0, none⟩) 0 0) [] := ⟨World.ownsRow_made w #[] 0 (Nat.le_refl _) (Nat.zero_le _) rfl, fun x hx => (by cases hx), fun x hx => (by cases hx)⟩
  have hA : Below w.heap.size w (w.alloc (.cells #[] e)) := (Below.refl _ _).alloc (Nat.le_refl _) _
  obtain ⟨v, W', h1, h2, h3, -⟩ := own0.pushAll hU hinfo hA.size (hy.below hA) (fun x hx a ha hk => by
    have h4 := (hy.its x hx).lt ha
    have h5 : w.heap.size = a.block := by simpa [Value.ownBlock] using hk
    omega) (by simpa using hlim)
  rw [List.nil_append] at h2
  exact ⟨v, W', h1, h2, hA.trans h3⟩
/-- 'append(append(out[:k], item), rest...)'. -/
theorem coin_put {w w9 wA : World} {B k n cap : Nat} {uo : Option Addr} {v9 : Value} {xs : List ItV} {x : ItV} (hB : B ≤ w.heap.size) (h : OwnIt e w B (.slice uo n cap) xs) (hn : n = xs.length) (hk : k ≤ n) (hr : OwnIt e w9 w.heap.size v9 (xs.drop k)) (hb : Below w.heap.size w w9) (hb9 : Below w9.heap.size w9 wA) (hx : ItS wA x) (hxa : ∀ a, x.ba = some a → w.heap.size ≤ a.block) (hlim : n + 1 ≤ 1048576) :
    ∃ v' W1, (Builtin.append_ #[T, T] T #[.slice uo k cap, .slice (some ⟨wA.heap.size, 0, none⟩) 1 1]).run Try.prog (wA.alloc (.cells #[.int .i64 (x.n : Int), .slice x.ba x.s.length x.bc] e)) = .ok v' W1 ∧
    ∃ v2 W2, (Builtin.append_ #[T, T] T #[v', v9]).run Try.prog W1 = .ok v2 W2 ∧ OwnIt e W2 B v2 (xs.take k ++ [x] ++ xs.drop k) ∧ Below B w W2 := by
  have hbA : Below w.heap.size w wA := hb.trans (hb9.mono hb.size)
  have hown : ∀ g, (Value.slice uo k cap).ownBlock = some g → (Value.slice uo n cap).ownBlock = some g := fun g hg => by
    cases uo with
    | none => cases hg
    | some a => exact hg
  have hlt : ∀ g, (Value.slice uo k cap).ownBlock = some g → g < w.heap.size := fun g hg => (h.row.lt g (hown g hg)).2
  have own1 : OwnIt e wA B (.slice uo k cap) (xs.take k) := (h.cut hn k hk).below hbA
  obtain ⟨v', W1, q1, q2, q3, q4, q5, q6⟩ := own1.push hU hinfo (Nat.le_trans hB hbA.size) x hx (fun a ha hk' => by
    have := hxa a ha
    have := hlt _ hk'
    omega) (by rw [List.length_take]; omega)
  have hrest : OwnIt e W1 w.heap.size v9 (xs.drop k) := (hr.below hb9).only q5 (fun g hg e' => by
    have h1 := (hr.row.lt g hg).1
    have h2 := hlt g e'
    omega) (fun y hy a ha e' => h.sep y (List.mem_of_mem_drop hy) a ha (hown _ e'))
  obtain ⟨v2, W2, p1, p2, p3, p4⟩ := q2.pushAll hU hinfo q4 hrest.src (fun y hy a ha e' => by
    rcases q6 with q | q
    · exact h.sep y (List.mem_of_mem_drop hy) a ha (hown _ (q.symm.trans e'))
    · have h1 := q _ e'
      have h2 := (h.its y (List.mem_of_mem_drop hy)).lt ha
      have h3 := hbA.size
      omega) (by simp only [List.length_append, List.length_take, List.length_drop, List.length_singleton]; omega)
  exact ⟨v', W1, q1, v2, W2, p1, p2, (hbA.mono hB).trans (q3.trans p3)⟩
end
end Go.Proofs.Ytenkbmkecgnfmaa.Huf
