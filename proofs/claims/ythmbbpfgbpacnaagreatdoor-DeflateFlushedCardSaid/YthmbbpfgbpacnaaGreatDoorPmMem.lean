/- Rows of bytes in memory of the call's own: of no package. -/
import Derived.Test.YthmbbpfgbpacnaaGreatDoorPmMemG
namespace Go.Proofs.YthmbbpfgbpacnaaGreatDoor.Mem
open Go.RowKit Go.Shelf
def bV (c : UInt8) : Value := .int .u8 (c.toNat : Int)
def bVs (l : List UInt8) : List Value := l.map bV
theorem bVs_one (l : List UInt8) : ∀ v ∈ bVs l, v.oneCell' = true := by
 intro v hv
 obtain ⟨c, _, rfl⟩ := List.mem_map.1 hv
 rfl
theorem bVs_len (l : List UInt8) : (bVs l).length = l.length := List.length_map ..
theorem bVs_append (l m : List UInt8) : bVs (l ++ m) = bVs l ++ bVs m := List.map_append
theorem bVs_at (l : List UInt8) (j : Nat) (h : j < l.length) : (bVs l)[j]? = some (bV l[j]) := by rw [bVs, List.getElem?_map, List.getElem?_eq_getElem h]; rfl
theorem bVs_set (l : List UInt8) (j : Nat) (c : UInt8) : bVs (l.set j c) = (bVs l).set j (bV c) := by rw [bVs, List.map_set]; rfl
theorem u8_inj {a b : UInt8} (h : ((a.toNat : Nat) : Int) = (b.toNat : Int)) : a = b := UInt8.toNat_inj.1 (by omega)
def Src (W : World) (x : Value) (l : List UInt8) : Prop :=
 (x = .slice none 0 0 /\ l = []) \/ ∃ a c, x = .slice (some a) l.length c /\ ∀ j v, (bVs l)[j]? = some v -> W.cell? (a.add j) = some v
theorem Src.below {W W' : World} {x : Value} {l : List UInt8} (h : Src W x l) (hb : Below W.heap.size W W') : Src W' x l :=
 h.imp id fun ⟨a, c, hx, hc⟩ => ⟨a, c, hx, fun j v hj => (hb.cell (block_lt_of_cell (hc j v hj))).trans (hc j v hj)⟩
def Src.lies (x : Value) (B : Nat) : Prop := ∀ a n c, x = .slice (some a) n c -> a.block < B
theorem Src.only {S : Nat -> Prop} {W W' : World} {x : Value} {l : List UInt8} (h : Src W x l) (ho : Only S W W') (hx : ∀ a n c, x = .slice (some a) n c -> ¬ S a.block) : Src W' x l :=
 h.imp id fun ⟨a, c, hv, hc⟩ => ⟨a, c, hv, fun j v hj => ho.cell (hc j v hj) (by rw [Lib.block_add]; exact hx a _ c hv)⟩
theorem Src.drew {W W' : World} {x : Value} {l : List UInt8} (h : Src W x l) (d : Drew W W') : Src W' x l := h.below (d.below _)
theorem Src.of_own {W : World} {base : Nat} {v : Value} {l : List UInt8} {n : Nat} (h : W.ownsRow base 5 1 v n (bVs l)) (hn : n = l.length) : Src W v l := by
 subst hn
 rcases h.2 with ⟨hv, h0⟩ | ⟨g, cap, cur, hv, hr⟩
 ·exact .inl ⟨hv, List.eq_nil_of_length_eq_zero h0⟩
 ·exact .inr ⟨⟨g, 0, none⟩, cap, hv, h.cells (by rw [hv]; rfl)⟩
theorem info5 : (Tryz.prog.info? 5).map (fun i => (i.zero, i.size, i.bytes)) = some (some (.int .u8 0), 1, 1) := by kernel_rfl
theorem app_any (W : World) (base : Nat) (v x : Value) (ty : TypeId) (xs l : List UInt8) (hown : W.ownsRow base 5 1 v xs.length (bVs xs)) (hbase : base <= W.heap.size) (hsrc : Src W x l) (hlim : xs.length + l.length <= 140737488355328) :
  ∃ v' W', (Builtin.append_ #[22, 22] ty #[v, x]).run Tryz.prog W = .ok v' W' /\ W'.ownsRow base 5 1 v' (xs ++ l).length (bVs (xs ++ l)) /\ W.grownBy W' v.ownBlock /\ (v'.ownBlock = v.ownBlock \/ ∀ k, v'.ownBlock = some k -> W.heap.size <= k) := by
 obtain ⟨i0, hi, hz0, hz1, hz2⟩ := info_parts info5
 rcases hsrc with ⟨rfl, rfl⟩ | ⟨a, c, rfl, hc⟩
 ·rw [List.append_nil]
  exact ⟨v, W, run_append_owned_none (P := Tryz.prog) (w := W) base 22 ty 5 i0 1 Tryz.underlying22 hi v _ _ hown, hown, ⟨rfl, rfl, rfl, Nat.le_refl _, fun _ _ _ => rfl⟩, .inl rfl⟩
 ·have hl1 : (bVs l).length = l.length * 1 := by rw [bVs_len, Nat.mul_one]
  have h63 : xs.length + l.length <= maxLen := by unfold maxLen; omega
  have run : ∀ b, b <= W.heap.size -> W.ownsRow b 5 1 v xs.length (bVs xs) -> ∃ v' W', (Builtin.append_ #[22, 22] ty #[v, .slice (some a) l.length c]).run Tryz.prog W = .ok v' W' /\ W'.ownsRow b 5 1 v' (xs.length + l.length) (bVs xs ++ bVs l) /\ W.grownBy W' v.ownBlock := fun b hb ho => by
   obtain ⟨v', W', q1, q2, q3, _⟩ := run_append_own (P := Tryz.prog) W b 22 ty 5 i0 (.int .u8 0) 1 1 Tryz.underlying22 hi hz0 hz1 hz2 rfl (by decide) v _ _ ho a l.length c (bVs l) hl1 hc (bVs_one l) h63 (by omega) hb
   exact ⟨v', W', q1, q2, q3⟩
  obtain ⟨v', W', hr, ho, hg⟩ := run base hbase hown
  refine ⟨v', W', hr, by rw [List.length_append, bVs_append]; exact ho, hg, ?_⟩
  rcases hown.2 with ⟨rfl, h0⟩ | ⟨g, cap, cur, rfl, hbg, hgg, hnc, hcm, hcs, htk⟩
  ·obtain ⟨v2, W2, hr2, ho2, _⟩ := run W.heap.size (Nat.le_refl _) ⟨hown.1, .inl ⟨rfl, h0⟩⟩
   rw [hr] at hr2
   injection hr2 with e1 e2
   subst e1
   exact .inr fun k hk => (ho2.lt k hk).1
  ·by_cases hroom : xs.length + l.length <= cap
   ·have hr2 := run_append_room (P := Tryz.prog) W 22 ty 5 i0 Tryz.underlying22 hi g xs.length cap cur hgg a l.length c (bVs l) (by rw [hz1]; exact hl1) hc (bVs_one l) hroom (by rw [hz1, bVs_len]; omega)
    rw [hr] at hr2
    injection hr2 with e1 e2
    subst e1
    exact .inl rfl
   ·have hr2 := run_append_grow (P := Tryz.prog) W 22 ty 5 i0 (.int .u8 0) Tryz.underlying22 hi hz0 ⟨g, 0, none⟩ xs.length cap (bVs xs) (by rw [hz1, bVs_len, Nat.mul_one]) (hown.cells (g := g) rfl) a l.length c (bVs l) (by rw [hz1]; exact hl1) hc (by omega) (by omega) (by rw [hz2]; exact growslice_fits (by omega) (by omega))
    rw [hr] at hr2
    injection hr2 with e1 e2
    subst e1
    exact .inr fun k hk => by simp [Value.ownBlock] at hk; omega
theorem fresh_any (W : World) (x : Value) (ty : TypeId) (l : List UInt8) (hx : Src W x l) (hl : l.length <= 140737488355328) :
  ∃ v W', (Builtin.append_ #[22, 22] ty #[.slice (some ⟨W.heap.size, 0, none⟩) 0 0, x]).run Tryz.prog (W.alloc (.cells #[] 5)) = .ok v W' /\ W'.ownsRow W.heap.size 5 1 v l.length (bVs l) /\ Below W.heap.size W W' := by
 have own0 : (W.alloc (.cells #[] 5)).ownsRow W.heap.size 5 1 (.slice (some ⟨W.heap.size, 0, none⟩) 0 0) 0 [] := World.ownsRow_made W #[] 0 (Nat.le_refl _) (Nat.zero_le _) rfl
 have hbA : Below W.heap.size W (W.alloc (.cells #[] 5)) := (Below.refl _ _).alloc (Nat.le_refl _) _
 obtain ⟨v, W', hr, ho, hg, -⟩ := app_any (W.alloc (.cells #[] 5)) W.heap.size _ x ty [] l own0 hbA.size (hx.below hbA) (by simp; omega)
 rw [List.nil_append] at ho
 exact ⟨v, W', hr, ho, hbA.trans (bel_grown own0 hg hbA.size (Nat.le_refl _))⟩
theorem src_take {W : World} {m cap n : Nat} {ao : Option Addr} {l : List UInt8} (h : Src W (.slice ao n cap) l) (hm : m <= l.length) : Src W (.slice ao m cap) (l.take m) := by
 rcases h with ⟨hv, rfl⟩ | ⟨a, c, hv, hc⟩
 ·cases hv
  have : m = 0 := by simpa using hm
  subst this
  exact .inl ⟨rfl, rfl⟩
 ·cases hv
  refine .inr ⟨a, _, by rw [List.length_take, Nat.min_eq_left hm], fun j v hj => hc j v ?_⟩
  rw [bVs, List.getElem?_map] at hj ⊢
  rw [List.getElem?_take] at hj
  split at hj
  ·exact hj
  ·cases hj
theorem src_drop {W : World} {n cc : Nat} {a : Addr} {l : List UInt8} (h : Src W (.slice (some a) l.length cc) l) (hn : n <= l.length) (q : Addr) (c2 : Nat) (hq : n < l.length -> q = a.add n) (ha : ∃ g, a = ⟨g, 0, none⟩) :
  Src W (.slice (some q) (l.length - n) c2) (l.drop n) := by
 rcases h with ⟨hv, _⟩ | ⟨a', c', hv, hcell⟩
 ·cases hv
 ·obtain ⟨rfl, -, rfl⟩ : a = a' /\ l.length = l.length /\ cc = c' := by simpa using hv
  obtain ⟨g, rfl⟩ := ha
  refine .inr ⟨q, c2, by rw [List.length_drop], fun j v hj => ?_⟩
  have hjl : j < l.length - n := by
   have := (List.getElem?_eq_some_iff.1 hj).1
   rw [bVs_len, List.length_drop] at this
   exact this
  rw [hq (by omega), Lib.addr_add, Lib.addr_add]
  have := hcell (n + j) v (by rw [bVs, List.map_drop, List.getElem?_drop] at hj; exact hj)
  rw [Lib.addr_add] at this
  rw [Nat.add_assoc]
  exact this
theorem conv_src (W : World) (x : Value) (l : List UInt8) (h : Src W x l) : (convert 22 9 x).run Tryz.prog W = .ok (.string ⟨l.toArray⟩) W := by
 rcases h with ⟨rfl, rfl⟩ | ⟨a, c, rfl, hc⟩
 ·rw [run_convert_bytes_string W 22 9 5 none 0 0 Tryz.underlying22 Tryz.underlying5 Tryz.underlying9]
  rfl
 ·refine run_convert_bytes_back W 22 9 5 a c l Tryz.underlying22 Tryz.underlying5 Tryz.underlying9 (fun j hj => ?_)
  refine hc j _ ?_
  rw [bVs, List.getElem?_map, List.getElem?_eq_getElem hj]
  rfl
theorem src_cell {W : World} {n cap : Nat} {a : Addr} {l : List UInt8} (h : Src W (.slice (some a) n cap) l) (j : Nat) (hj : j < l.length) : W.cell? (a.add j) = some (.int .u8 ((l[j]).toNat : Int)) := by
 rcases h with ⟨hv, _⟩ | ⟨a', c', hv, hcell⟩
 ·cases hv
 ·cases hv
  exact hcell j _ (bVs_at l j hj)
theorem own_set {W : World} {B n cap g : Nat} {l : List UInt8} (h : W.ownsRow B 5 1 (.slice (some ⟨g, 0, none⟩) n cap) n (bVs l)) (j : Nat) (c : UInt8) :
  (W.setCell ⟨g, j, none⟩ (.int .u8 (c.toNat : Int))).ownsRow B 5 1 (.slice (some ⟨g, 0, none⟩) n cap) n (bVs (l.set j c)) := by
 rw [bVs_set]
 exact (h.stored j (bV c)).1
end Go.Proofs.YthmbbpfgbpacnaaGreatDoor.Mem
