/- A writer of package bits that NewWriter made: what it holds, and a bit more. -/
import Derived.Test.YtmmbadkkkjkgnaaDoorMem
import Derived.Test.YtmmbadkkkjkgnaaDoorBitA
namespace Go.Proofs.YtmmbadkkkjkgnaaDoor.Bit
open Go.RowKit Go.Shelf Go.Proofs.YtmmbadkkkjkgnaaDoor.Mem

/-- The eight masks, in memory that lies ahead of B. -/
def Masks (W : World) (B : Nat) : Prop := 0 < B ∧ ∀ i : Nat, i < 8 → W.cell? ⟨0, i, none⟩ = some (.int .u8 (2 ^ i))
theorem Masks.only {S : Nat → Prop} {W W' : World} {B : Nat} (h : Masks W B) (o : Only S W W') (hs : ∀ k, S k → B ≤ k) : Masks W' B :=
  ⟨h.1, fun i hi => o.cell (h.2 i hi) (fun q => Nat.not_le.2 h.1 (hs _ q))⟩
theorem Masks.drew {W W' : World} {B : Nat} (h : Masks W B) (d : Drew W W') : Masks W' B := h.only (S := fun _ => False) d.only (fun _ q => q.elim)
theorem Masks.below {W W' : World} {B : Nat} (h : Masks W B) (o : Below B W W') : Masks W' B :=
  ⟨h.1, fun i hi => (o.cell (p := ⟨0, i, none⟩) h.1).trans (h.2 i hi)⟩

/-- Block b is a writer that holds the bits l, in the row g (b itself, where it has none). -/
def WB (W : World) (B b g : Nat) (l : List Bool) : Prop :=
  ∃ v, W.heap[b]? = some (.cells #[.pointer (some ⟨b, 0, none⟩), v, .int .i64 l.length] 79 (0, 0)) ∧ W.ownsRow B 5 1 v (pk l).length (bVs (pk l)) ∧ (v.ownBlock = none ∧ g = b ∨ v.ownBlock = some g ∧ g ≠ b) ∧ B ≤ b
section
variable {W W' : World} {B b g : Nat} {l : List Bool}
theorem WB.lt (h : WB W B b g l) : b < W.heap.size := by obtain ⟨v, hc, _⟩ := h; exact (Array.getElem?_eq_some_iff.1 hc).1
theorem WB.ltg (h : WB W B b g l) : g < W.heap.size := by
  obtain ⟨v, hc, ho, ⟨_, rfl⟩ | ⟨hk, _⟩, _⟩ := h
  · exact (Array.getElem?_eq_some_iff.1 hc).1
  · exact (ho.lt g hk).2
theorem WB.leg (h : WB W B b g l) : B ≤ g := by
  obtain ⟨v, hc, ho, ⟨_, rfl⟩ | ⟨hk, _⟩, hb⟩ := h
  · exact hb
  · exact (ho.lt g hk).1
theorem WB.leb (h : WB W B b g l) : B ≤ b := by obtain ⟨v, hc, ho, _, hb⟩ := h; exact hb
theorem WB.same (h : WB W B b g l) (hc : W'.heap[b]? = W.heap[b]?) (hk : W'.heap[g]? = W.heap[g]?) : WB W' B b g l := by
  obtain ⟨v, q, ho, hv, hB⟩ := h
  refine ⟨v, hc.trans q, own_same ho fun k e => ?_, hv, hB⟩
  rcases hv with ⟨hn, _⟩ | ⟨hs, _⟩
  · rw [e] at hn; cases hn
  · rw [e] at hs
    obtain rfl : k = g := by simpa using hs
    exact hk
theorem WB.below (h : WB W B b g l) (hb : Below W.heap.size W W') : WB W' B b g l := h.same (hb.block b h.lt) (hb.block g h.ltg)
theorem WB.drew (h : WB W B b g l) (d : Drew W W') : WB W' B b g l := h.same (by rw [d.heap]) (by rw [d.heap])
theorem WB.only {S : Nat → Prop} (h : WB W B b g l) (o : Only S W W') (hb : ¬ S b) (hg : ¬ S g) : WB W' B b g l := h.same (o.block b h.lt hb) (o.block g h.ltg hg)
end

/-- What a call on the writer leaves: it may have got another row. -/
def WStep (W W' : World) (B b g : Nat) (l' : List Bool) : Prop := ∃ g', WB W' B b g' l' ∧ (g' = g ∨ W.heap.size ≤ g') ∧ Only (fun k => k = b ∨ k = g) W W'
theorem WStep.trans {U V W : World} {B b g g' : Nat} {l m : List Bool} (h1 : WB V B b g' l) (h2 : g' = g ∨ U.heap.size ≤ g') (h3 : Only (fun k => k = b ∨ k = g) U V) (h : WStep V W B b g' m) : WStep U W B b g m := by
  obtain ⟨g2, q1, q2, q3⟩ := h
  refine ⟨g2, q1, ?_, h3.trans q3 ?_⟩
  · rcases q2 with rfl | q2
    · exact h2
    · exact .inr (Nat.le_trans h3.size q2)
  · rintro i (rfl | rfl)
    · exact .inl (.inl rfl)
    · rcases h2 with rfl | h2
      · exact .inl (.inr rfl)
      · exact .inr h2

set_option maxHeartbeats 400000 in
theorem made_yes (W : World) (B b g : Nat) (l : List Bool) (h : WB W B b g l) : Calls Tryd.prog 37 #[.pointer (some ⟨b, 0, none⟩)] W fun e w' => e = .returned (.bool true) ∧ W = w' := by
  obtain ⟨v, hc, -⟩ := h
  have c0 : W.cell? ⟨b, 0, none⟩ = some (.pointer (some ⟨b, 0, none⟩)) := by rw [Lib.cell_of_heap hc]; rfl
  have hn : ∀ w, (binOp .neq 44 (.pointer (some ⟨b, 0, none⟩)) (.pointer none)).run Tryd.prog w = .ok (.bool true) w := fun _ => by kernel_rfl
  obtain ⟨j, hte⟩ : ∃ j, Tryd.prog.info? 79 = some j := Option.isSome_iff_exists.1 (by kernel_rfl)
  have he : ∀ w, (binOp .eql 44 (.pointer (some ⟨b, 0, none⟩)) (.pointer (some ⟨b, 0, none⟩))).run Tryd.prog w = .ok (.bool true) w := fun w => run_eql_ptr_same (w := w) _ Tryd.underlying44 hte
  clear hc
  go_enter Tryd.func37, Tryd.ntmps37
  go_wp2
  go_ret
  exact ⟨rfl, rfl⟩

set_option maxHeartbeats 400000 in
theorem newWriter_any (W : World) (B : Nat) (hB : B ≤ W.heap.size) : Calls Tryd.prog 18 #[] W fun e w' => e = .returned (.pointer (some ⟨W.heap.size, 0, none⟩)) ∧ WB w' B W.heap.size W.heap.size [] ∧ Below W.heap.size W w' := by
  go_enter Tryd.func18, Tryd.ntmps18
  go_wp2
  go_ret
  refine ⟨rfl, ⟨.slice none 0 0, ?_, World.ownsRow_nil _ _ _ _, .inl ⟨rfl, rfl⟩, hB⟩, ?_⟩
  · exact heap_alloc_new _ _
  · exact (Below.refl _ _).alloc (Nat.le_refl _) _

theorem or_byte (x : UInt8) (i : Nat) (h : i < 8) : bits BinOp.or IntKind.u8 (x.toNat : Int) (2 ^ i) = ((orB x i).toNat : Int) := by
  have hp : 2 ^ i < 256 := Nat.lt_of_lt_of_le (Nat.pow_lt_pow_right (by decide) h) (by decide)
  have e : ((2 : Int) ^ i) = ((2 ^ i : Nat) : Int) := by rw [Int.natCast_pow]; rfl
  rw [e, u8_or_nat _ _ (UInt8.toNat_lt x) hp]
  unfold orB
  rw [UInt8.toNat_or, UInt8.toNat_ofNat', Nat.mod_eq_of_lt hp]

/-- What a bit more leaves, where the row g has room for it. -/
theorem bit_end {W V : World} {B b g g0 cap : Nat} {l : List Bool} {r : List UInt8} {x : Bool} (hc : V.heap[b]? = some (.cells #[.pointer (some ⟨b, 0, none⟩), .slice (some ⟨g, 0, none⟩) r.length cap, .int .i64 l.length] 79 (0, 0)))
    (ho : V.ownsRow B 5 1 (.slice (some ⟨g, 0, none⟩) r.length cap) r.length (bVs r)) (hB : B ≤ b) (hgb : g ≠ b) (hr : pk (l ++ [x]) = if x then r.set (l.length / 8) (orB (r.getD (l.length / 8) 0) (l.length % 8)) else r)
    (hg : g = g0 ∨ W.heap.size ≤ g) (hW : Only (fun k => k = b ∨ k = g0) W V) :
    WStep W ((if x then V.setCell ⟨g, l.length / 8, none⟩ (.int .u8 ((orB (r.getD (l.length / 8) 0) (l.length % 8)).toNat : Int)) else V).setCell ⟨b, 2, none⟩ (.int .i64 ((l.length : Int) + 1))) B b g0 (l ++ [x]) := by
  have hlen : (pk (l ++ [x])).length = r.length := by rw [hr]; split <;> simp
  have e1 : ((l ++ [x]).length : Int) = (l.length : Int) + 1 := by simp
  refine ⟨g, ?_, hg, ?_⟩
  · unfold WB
    rw [hlen, e1]
    refine ⟨.slice (some ⟨g, 0, none⟩) r.length cap, ?_, ?_, .inr ⟨rfl, hgb⟩, hB⟩
    · refine (Lib.heap_setCell_same (i := 2) (cs := #[.pointer (some ⟨b, 0, none⟩), .slice (some ⟨g, 0, none⟩) r.length cap, .int .i64 l.length]) (T := 79) (fr := (0, 0)) ?_ _).trans rfl
      cases x
      · exact hc
      · exact (Below.heap_setCell _ _ _ _ (fun e => hgb e.symm)).trans hc
    · refine own_same (W := if x then V.setCell ⟨g, l.length / 8, none⟩ (.int .u8 ((orB (r.getD (l.length / 8) 0) (l.length % 8)).toNat : Int)) else V) ?_ (fun k hk => ?_)
      · rw [hr]
        cases x
        · exact ho
        · exact own_set ho _ _
      · obtain rfl : g = k := by simpa [Value.ownBlock] using hk
        exact Below.heap_setCell _ _ _ _ hgb
  · refine (hW.trans (S' := fun k => k = b ∨ k = g) ?_ (fun i q => ?_)).trans (S' := fun k => k = b) (Only.setCell (S := fun k => k = b) rfl _ _) (fun i q => .inl (.inl q))
    · cases x
      · exact Only.refl _ _
      · exact Only.setCell (.inr rfl) _ _
    · rcases q with rfl | rfl
      · exact .inl (.inl rfl)
      · exact hg.imp .inr id

set_option maxRecDepth 100000 in
set_option maxHeartbeats 2000000 in
/-- A bit more, where the last byte has room for it. -/
theorem putBit_room (W : World) (B b g : Nat) (l : List Bool) (x : Bool) (h : WB W B b g l) (hm : Masks W B) (hl : l.length < 8388608) (hr : l.length ≠ 8 * (pk l).length) :
    Calls Tryd.prog 44 #[.pointer (some ⟨b, 0, none⟩), .int .i64 x.toNat] W fun e w' => e = .returned (.tuple #[]) ∧ WStep W w' B b g (l ++ [x]) := by
  have hpl := pk_len l
  obtain ⟨v, hc, ho, hv, hB⟩ := h
  obtain ⟨ao, cap, rfl, hcap, hcm, hnone⟩ := own_shape ho
  cases ao with
  | none => have := (hnone rfl).1; omega
  | some a =>
    obtain ⟨g', rfl, hg1, hg2⟩ := own_block ho
    obtain rfl : g = g' := by
      rcases hv with ⟨hv, _⟩ | ⟨hv, _⟩
      · cases hv
      · simpa [Value.ownBlock] using hv.symm
    have hgb : g ≠ b := by
      rcases hv with ⟨hv, _⟩ | ⟨_, hv⟩
      · cases hv
      · exact hv
    have c1 : W.cell? ⟨b, 1, none⟩ = some (.slice (some ⟨g, 0, none⟩) (pk l).length cap) := by rw [Lib.cell_of_heap hc]; rfl
    have c2 : W.cell? ⟨b, 2, none⟩ = some (.int .i64 l.length) := by rw [Lib.cell_of_heap hc]; rfl
    have f2 := Lib.frozen_of_heap hc 2
    have mixed : Tryd.prog.follows .mixedOrders = true := by kernel_rfl
    have hne : ((l.length : Int) == 8 * ((pk l).length : Int)) = false := by
      rw [beq_eq_false_iff_ne]; omega
    have hlt : l.length / 8 < (pk l).length := by omega
    have HE : ∀ W', Drew W W' → WStep W _ B b g (l ++ [x]) := fun W' d => bit_end ((by rw [d.heap] : W'.heap[b]? = W.heap[b]?).trans hc) (own_drew ho d) hB hgb (by rw [pk_snoc]; unfold put1; rw [if_neg hr]) (.inl rfl) d.only
    have hor := or_byte ((pk l)[l.length / 8]) (l.length % 8) (Nat.mod_lt _ (by decide))
    have hmk := hm.2 (l.length % 8) (Nat.mod_lt _ (by decide))
    have hrc := src_cell (Src.of_own ho rfl) (l.length / 8) hlt
    rw [Lib.addr_add, Nat.zero_add] at hrc
    have hrf := ho.frozenAt (l.length / 8)
    have hgd : (pk l).getD (l.length / 8) 0 = (pk l)[l.length / 8] := by rw [List.getD_eq_getElem?_getD, List.getElem?_eq_getElem hlt]; rfl
    rw [hgd] at HE
    generalize (pk l)[l.length / 8] = old at *
    have HEn := Lib.hid HE
    have hn8 : ((pk l).length : Int) ≤ 1048577 := by omega
    have hi8 : (l.length : Int) / 8 < ((pk l).length : Int) := by omega
    generalize (pk l).length = m at *
    generalize l.length = n at *
    have HN : Hid (m = (n + 7) / 8) := Lib.hid hpl
    clear hc ho hm hv HE hgd hpl hnone hr hlt
    cases x with
    | false =>
      go_enter Tryd.func44, Tryd.ntmps44
      go_wp2
      go_quiet (fail)
      go_wp2
      go_end0
      exact ⟨rfl, HEn.out _ ⟨rfl, rfl, rfl, rfl⟩⟩
    | true =>
      go_enter Tryd.func44, Tryd.ntmps44
      go_wp2
      go_quiet (fail)
      go_wp2
      go_region
      all_goals
        go_wp2
        go_end0
        refine ⟨rfl, ?_⟩
        exact HEn.out _ ⟨rfl, rfl, rfl, rfl⟩

end Go.Proofs.YtmmbadkkkjkgnaaDoor.Bit
