/- Bytes that are lent with marked room behind them, and whether they stay; bytes of the call's own, each made greater by 1. -/
import Derived.Test.YtdgfhbeofidbnaaDoorPkBitE
namespace Go.Proofs.YtdgfhbeofidbnaaDoor.Bit
open Go.RowKit Go.Shelf Go.Proofs.YtdgfhbeofidbnaaDoor.Mem

set_option maxRecDepth 100000 in
set_option maxHeartbeats 2000000 in
theorem lent_any (W : World) (n c : Nat) (ax : Option Addr) (l : List UInt8) (hx : Src W (.slice ax n c) l) (hn : l.length = n) (hl : n ≤ 140737488355326) :
    Calls Tryd.prog 7 #[.slice ax n c] W fun e w' => ∃ k cap, e = .returned (.slice (some ⟨k, 0, none⟩) n cap) ∧ n + 2 ≤ cap ∧ w'.ownsRow W.heap.size 5 1 (.slice (some ⟨k, 0, none⟩) (n + 2) cap) (n + 2) (bVs (l ++ [201, 202])) ∧ Below W.heap.size W w' := by
  subst hn
  obtain ⟨v1, W1, hr1, ho1, hb1⟩ := fresh_any W (.slice ax l.length c) 22 l hx (by omega)
  have hA := (Below.refl W1.heap.size W1).alloc (Nat.le_refl _) (.cells #[.int .u8 201, .int .u8 202] 5)
  have hm : Src (W1.alloc (.cells #[.int .u8 201, .int .u8 202] 5)) (.slice (some ⟨W1.heap.size, 0, none⟩) 2 2) [201, 202] := .inr ⟨⟨W1.heap.size, 0, none⟩, 2, rfl, fun j v hj => by
    rw [Lib.addr_add, cell_of_row _ _ _ _ _ (0, 0) (heap_alloc_new _ _)]
    rcases j with _ | _ | j
    · simpa [bVs, bV] using hj
    · simpa [bVs, bV] using hj
    · simp [bVs] at hj⟩
  obtain ⟨v2, W2, hr2, ho2, hg2, -⟩ := app_any (W1.alloc (.cells #[.int .u8 201, .int .u8 202] 5)) W.heap.size v1 (.slice (some ⟨W1.heap.size, 0, none⟩) 2 2) 22 l [201, 202] (own_below ho1 hA) (Nat.le_trans hb1.size hA.size) hm (by simp; omega)
  have hb2 : Below W.heap.size W W2 := (hb1.trans (hA.mono hb1.size)).trans (bel_grown (own_below ho1 hA) hg2 (Nat.le_trans hb1.size hA.size) (Nat.le_refl _))
  have hln : (l ++ [201, 202]).length = l.length + 2 := by rw [List.length_append]; rfl
  rw [hln] at ho2
  obtain ⟨k, cap, hv, hc2, hcm⟩ : ∃ k cap, v2 = .slice (some ⟨k, 0, none⟩) (l.length + 2) cap ∧ l.length + 2 ≤ cap ∧ cap ≤ 9223372036854775807 := by
    rcases ho2.2 with ⟨_, hz⟩ | ⟨k, cap, cur, hv, _, _, h2, h3, _⟩
    · omega
    · exact ⟨k, cap, hv, h2, by unfold maxLen at h3; omega⟩
  subst hv
  obtain ⟨a1, c1, rfl, -, -, -⟩ := own_shape ho1
  have HE := Lib.hid (And.intro ho2 hb2)
  clear ho2 hb2 hg2 hm hb1 ho1 hA hx
  go_enter Tryd.func7, Tryd.ntmps7
  go_wp2_with (first
    | (at_builtin; refine wpList_append_at _ rfl _ _ _ _ rfl _ _ rfl rfl _ _ hr1 ?_)
    | (at_builtin; go_loud (refine wpList_append_at _ rfl _ _ _ _ rfl _ _ rfl rfl _ _ hr2 ?_)))
  go_ret
  exact ⟨k, cap, rfl, hc2, HE.out.1, HE.out.2⟩

/-- The lent bytes, without the room behind them. -/
theorem lent_src {W : World} {B k cap : Nat} {l : List UInt8} (ho : W.ownsRow B 5 1 (.slice (some ⟨k, 0, none⟩) (l.length + 2) cap) (l.length + 2) (bVs (l ++ [201, 202]))) : Src W (.slice (some ⟨k, 0, none⟩) l.length cap) l := by
  have h1 : Src W (.slice (some ⟨k, 0, none⟩) (l.length + 2) cap) (l ++ [201, 202]) := Src.of_own ho (by rw [List.length_append]; rfl)
  have := src_take (m := l.length) h1 (by rw [List.length_append]; omega)
  rw [List.take_append_of_le_length (Nat.le_refl _), List.take_length] at this
  exact this

set_option maxRecDepth 100000 in
set_option maxHeartbeats 4000000 in
theorem stays_any (W : World) (B k cap c : Nat) (ax : Option Addr) (l : List UInt8) (hx : Src W (.slice ax l.length c) l) (ho : W.ownsRow B 5 1 (.slice (some ⟨k, 0, none⟩) (l.length + 2) cap) (l.length + 2) (bVs (l ++ [201, 202]))) (hcap : l.length + 2 ≤ cap) (hl : l.length ≤ 140737488355326) :
    Calls Tryd.prog 14 #[.slice (some ⟨k, 0, none⟩) l.length cap, .slice ax l.length c] W fun e w' => e = .returned (.bool true) ∧ ∃ m, w' = W.drewN m := by
  have hc2 : cap ≤ 9223372036854775807 := by
    rcases ho.2 with ⟨hv, _⟩ | ⟨g, cap', cur, hv, _, _, _, h3, _⟩
    · cases hv
    · cases hv; unfold maxLen at h3; omega
  have hs : Src W (.slice (some ⟨k, 0, none⟩) l.length cap) l := lent_src ho
  have s1 : ∀ m, (convert 22 9 (.slice (some ⟨k, 0, none⟩) l.length cap)).run Tryd.prog (W.drewN m) = .ok (.string ⟨l.toArray⟩) (W.drewN m) := fun m => conv_src _ _ l (hs.drew (Drew.drewN _ _))
  have s2 : ∀ m, (convert 22 9 (.slice ax l.length c)).run Tryd.prog (W.drewN m) = .ok (.string ⟨l.toArray⟩) (W.drewN m) := fun m => conv_src _ _ l (hx.drew (Drew.drewN _ _))
  have hsr : Src W (.slice (some ⟨k, 0, none⟩) (l.length + 2) cap) (l ++ [201, 202]) := Src.of_own ho (by rw [List.length_append]; rfl)
  have c1 : W.cell? ⟨k, l.length, none⟩ = some (.int .u8 201) := by
    have := src_cell hsr l.length (by rw [List.length_append]; simp)
    rw [Lib.addr_add, Nat.zero_add] at this
    simpa using this
  have c2 : W.cell? ⟨k, l.length + 1, none⟩ = some (.int .u8 202) := by
    have := src_cell hsr (l.length + 1) (by rw [List.length_append]; simp)
    rw [Lib.addr_add, Nat.zero_add] at this
    simpa using this
  have mixed : Tryd.prog.follows .mixedOrders = true := by kernel_rfl
  clear hx ho hs hsr
  generalize (⟨l.toArray⟩ : ByteArray) = str at s1 s2
  generalize l.length = n at *
  go_enter Tryd.func14, Tryd.ntmps14
  go_wp2
  go_quiet (fail)
  go_wp2
  go_ret
  exact ⟨rfl, _, rfl⟩

/-- Block q holds n bytes of the call's own, whatever they are. -/
def Own8 (W : World) (q n : Nat) : Prop := ∃ l cap, l.length = n ∧ W.ownsRow 0 5 1 (.slice (some ⟨q, 0, none⟩) n cap) n (bVs l)
theorem Own8.of {W : World} {B q n cap : Nat} {l : List UInt8} (h : W.ownsRow B 5 1 (.slice (some ⟨q, 0, none⟩) n cap) n (bVs l)) (hl : l.length = n) : Own8 W q n := ⟨l, cap, hl, own_zero h⟩
theorem Own8.lt {W : World} {q n : Nat} (h : Own8 W q n) : q < W.heap.size := by obtain ⟨l, cap, hl, ho⟩ := h; exact (ho.lt q rfl).2
theorem Own8.same {W W' : World} {q n : Nat} (h : Own8 W q n) (e : W'.heap[q]? = W.heap[q]?) : Own8 W' q n := by
  obtain ⟨l, cap, hl, ho⟩ := h
  exact ⟨l, cap, hl, own_same ho (fun k hk => by
    obtain rfl : q = k := by simpa [Value.ownBlock] using hk
    exact e)⟩
/-- One of them is read, and written one greater. -/
theorem Own8.step {W : World} {q n j : Nat} (h : Own8 W q n) (hj : j < n) : ∃ c : UInt8, W.cell? ⟨q, j, none⟩ = some (.int .u8 (c.toNat : Int)) ∧ W.frozen? ⟨q, j, none⟩ = false ∧ IntKind.u8.wrap ((c.toNat : Int) + 1) = ((c + 1).toNat : Int) ∧ Own8 (W.setCell ⟨q, j, none⟩ (.int .u8 ((c + 1).toNat : Int))) q n := by
  obtain ⟨l, cap, hl, ho⟩ := h
  have hsr := src_cell (Src.of_own ho hl.symm) j (by omega)
  rw [Lib.addr_add, Nat.zero_add] at hsr
  exact ⟨_, hsr, ho.frozenAt j, inc_u8 _, _, cap, by rw [List.length_set]; exact hl, own_set ho j _⟩

end Go.Proofs.YtdgfhbeofidbnaaDoor.Bit
