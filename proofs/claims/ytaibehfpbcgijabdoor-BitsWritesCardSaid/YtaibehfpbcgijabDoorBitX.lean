/- Any call on both writers of bits; two pairs of them, apart. -/
import Derived.Test.YtaibehfpbcgijabDoorBitV
namespace Go.Proofs.YtaibehfpbcgijabDoor.Bit
open Go.RowKit Go.Shelf Go.Proofs.YtaibehfpbcgijabDoor.Mem

theorem put_any (W0 W : World) (B b g c k nx cx : Nat) (ax : Option Addr) (K N V : Int) (l : List Bool) (cs : List UInt8) (h : PrW W B b g c k l) (hm : Masks W B) (hW : Below B W0 W) (hBW : B ≤ W.heap.size) (hx : ∀ w', Below B W0 w' → Src w' (.slice ax nx cx) cs) (hn : cs.length = nx) (hl : nx ≤ 140737488351232) :
    Calls Tryd.prog 10 #[.pointer (some ⟨b, 0, none⟩), .pointer (some ⟨c, 0, none⟩), .agg #[.int .i64 K, .int .i64 N, .int .i64 V, .slice ax nx cx]] W fun e w' => e = .returned (.bool true) ∧ PStep W w' B b g c k := by
  by_cases h0 : K = 0
  · subst h0; exact put_zero W B b g c k nx cx ax N V l h hm hBW
  · by_cases h1 : K = 1
    · subst h1; exact put_one W B b g c k nx cx ax N V l h
    · exact put_raw W0 W B b g c k nx cx ax K N V l cs h hW hBW hx hn hl h0 h1

/-- Two pairs of writers, in memory of their own each. -/
structure TwoW (W wr : World) (B b g c k b2 g2 c2 k2 : Nat) (l l2 : List Bool) : Prop where
  p : PrW wr B b g c k l
  q : PrW wr B b2 g2 c2 k2 l2
  bel : Below B W wr
  hB : B ≤ wr.heap.size
  dis : ∀ i, (i = b ∨ i = g ∨ i = c ∨ i = k) → ¬ (i = b2 ∨ i = g2 ∨ i = c2 ∨ i = k2)
/-- Some state of two pairs at these places. -/
def TwoS (W wr : World) (B b c b2 c2 : Nat) : Prop := ∃ g k g2 k2 l l2, TwoW W wr B b g c k b2 g2 c2 k2 l l2
section
variable {W wr w' : World} {B b g c k b2 g2 c2 k2 : Nat} {l l2 : List Bool}
theorem PrW.leB (h : PrW wr B b g c k l) : ∀ i, (i = b ∨ i = g ∨ i = c ∨ i = k) → B ≤ i ∧ i < wr.heap.size := by
  rintro i (rfl | rfl | rfl | rfl)
  · exact ⟨h.q.leb, h.q.lt⟩
  · exact ⟨h.q.leg, h.q.ltg⟩
  · exact ⟨h.r.lec, h.r.lt⟩
  · exact ⟨h.r.lek, h.r.ltk⟩
theorem TwoW.one (h : TwoW W wr B b g c k b2 g2 c2 k2 l l2) (s : PStep wr w' B b g c k) : TwoS W w' B b c b2 c2 := by
  obtain ⟨g', k', l', p1, p2, p3, p4⟩ := s
  have hq := h.q.leB
  have hd := h.dis
  refine ⟨g', k', g2, k2, l', l2, p1, h.q.only p4 ?_ ?_ ?_ ?_, h.bel.trans (p4.below h.hB (fun i hi => (h.p.leB i hi).1)), Nat.le_trans h.hB p4.size, ?_⟩
  · exact fun e => hd _ e (.inl rfl)
  · exact fun e => hd _ e (.inr (.inl rfl))
  · exact fun e => hd _ e (.inr (.inr (.inl rfl)))
  · exact fun e => hd _ e (.inr (.inr (.inr rfl)))
  · intro i hi hi2
    have h2 := (hq i hi2).2
    rcases hi with rfl | rfl | rfl | rfl
    · exact hd _ (.inl rfl) hi2
    · rcases p2 with e | e
      · exact hd _ (.inr (.inl e)) hi2
      · omega
    · exact hd _ (.inr (.inr (.inl rfl))) hi2
    · rcases p3 with e | e
      · exact hd _ (.inr (.inr (.inr e))) hi2
      · omega
theorem TwoW.swap (h : TwoW W wr B b g c k b2 g2 c2 k2 l l2) : TwoW W wr B b2 g2 c2 k2 b g c k l2 l := ⟨h.q, h.p, h.bel, h.hB, fun i h1 h2 => h.dis i h2 h1⟩
theorem TwoS.swap (h : TwoS W wr B b c b2 c2) : TwoS W wr B b2 c2 b c := by
  obtain ⟨g, k, g2, k2, l, l2, h⟩ := h
  exact ⟨g2, k2, g, k, l2, l, h.swap⟩
theorem TwoS.bel (h : TwoS W wr B b c b2 c2) : Below B W wr ∧ B ≤ wr.heap.size := by
  obtain ⟨g, k, g2, k2, l, l2, h⟩ := h
  exact ⟨h.bel, h.hB⟩
/-- A call on the first pair. -/
theorem TwoS.put (h : TwoS W wr B b c b2 c2) (hm : Masks W B) (K N V : Int) (ax : Option Addr) (nx cx : Nat) (cs : List UInt8) (hx : ∀ w', Below B W w' → Src w' (.slice ax nx cx) cs) (hn : cs.length = nx) (hl : nx ≤ 140737488351232) :
    Calls Tryd.prog 10 #[.pointer (some ⟨b, 0, none⟩), .pointer (some ⟨c, 0, none⟩), .agg #[.int .i64 K, .int .i64 N, .int .i64 V, .slice ax nx cx]] wr fun e w' => e = .returned (.bool true) ∧ TwoS W w' B b c b2 c2 := by
  obtain ⟨g, k, g2, k2, l, l2, h⟩ := h
  exact (put_any W wr B b g c k nx cx ax K N V l cs h.p (hm.below h.bel) h.bel h.hB hx hn hl).mono fun e w' ⟨q, s⟩ => ⟨q, h.one s⟩
end

end Go.Proofs.YtaibehfpbcgijabDoor.Bit
