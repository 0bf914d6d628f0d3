/- A Put on both queues. -/
import Derived.Test.YtaibehfpbcgijaaDoorAscZ5
namespace Go.Proofs.YtaibehfpbcgijaaDoor.Asc
open Go.RowKit Go.Shelf

/-- Where bytes that came in lie: apart from the queues. -/
def Off (ax : Option Addr) (cs : List UInt8) (b g c : Nat) : Prop := cs ≠ [] → ∀ a, ax = some a → a.block ≠ b ∧ a.block ≠ g ∧ a.block ≠ c
theorem src_off {W W' : World} {x y m cv : Nat} {ao : Option Addr} {l : List UInt8} (h : Src W (.slice ao m cv) l) (u : Upd x y W W') (hne : l ≠ [] → ∀ a, ao = some a → a.block ≠ x ∧ a.block ≠ y) : Src W' (.slice ao m cv) l := by
  rcases h with ⟨hv, hl⟩ | ⟨a, c', hv, hc⟩
  · exact .inl ⟨hv, hl⟩
  · refine .inr ⟨a, c', hv, fun j v hj => ?_⟩
    cases hv
    have := hne (fun e => by subst e; simp [bVs] at hj) a rfl
    exact u.cell (hc j v hj) (by rw [Lib.block_add]; exact this.1) (by rw [Lib.block_add]; exact this.2)

theorem put_both (w : World) (b g k n cap s : Nat) (lim : Int) (l cs : List UInt8) (hq : Bf w b g lim (s : Int) (bVs l)) (h2 : lim ≤ 1048576) (hll : (l.length : Int) ≤ lim) (hn : cs.length = n) (hnb : n ≤ 1048576) (hs : Src w (.slice (some ⟨k, 0, none⟩) n cap) cs) (hkb : k ≠ b) (hkg : k ≠ g) :
    Calls Tryd.prog 38 #[.pointer (some ⟨b, 0, none⟩), .slice (some ⟨k, 0, none⟩) n cap] w fun e w' => e = .returned (.int .i64 (if (l.length : Int) + n ≤ lim then 0 else 6)) ∧ ∃ g', Bf w' b g' lim (s : Int) (bVs (if (l.length : Int) + n ≤ lim then l ++ cs else l)) ∧ (g' = g ∨ w.heap.size ≤ g') ∧ Upd b g w w' := by
  by_cases hfit : (l.length : Int) + n ≤ lim
  · rw [if_pos hfit, if_pos hfit]
    refine put_ok w b g n cap _ lim s l cs hq h2 hn (fun a ha => ?_) (fun h => by cases h) hfit
    cases ha
    rcases hs with ⟨hv, _⟩ | ⟨a, c', hv, hc⟩
    · cases hv
    · cases hv
      exact ⟨hkb, hkg, hc⟩
  · rw [if_neg hfit, if_neg hfit]
    refine (put_no w b g n cap _ lim s l hq h2 (by omega) hll (by omega)).mono ?_
    rintro e w' ⟨rfl, hd⟩
    exact ⟨rfl, g, hq.drew hd, .inl rfl, hd.upd b g⟩
theorem ref_both (w : World) (c k n cx : Nat) (ax : Option Addr) (lim : Int) (l cs : List UInt8) (hr : Rq w c k lim l) (h2 : lim ≤ 1048576) (hll : (l.length : Int) ≤ lim) (hn : cs.length = n) (hs : Src w (.slice ax n cx) cs) :
    Calls Tryd.prog 54 #[.pointer (some ⟨c, 0, none⟩), .slice ax n cx] w fun e w' => e = .returned (.int .i64 (if (l.length : Int) + n ≤ lim then 0 else 6)) ∧ ∃ k', Rq w' c k' lim (if (l.length : Int) + n ≤ lim then l ++ cs else l) ∧ (k' = c ∨ k' = k ∨ w.heap.size ≤ k') ∧ Upd c c w w' := by
  by_cases hfit : (l.length : Int) + n ≤ lim
  · rw [if_pos hfit, if_pos hfit]
    refine (refPut_ok w c k n cx ax lim l cs hr hs hn h2 hfit).mono ?_
    rintro e w' ⟨rfl, k', q1, q2, q3⟩
    exact ⟨rfl, k', q1, q2.imp id .inr, q3⟩
  · rw [if_neg hfit, if_neg hfit]
    refine (refPut_no w c k n cx ax lim l hr h2 hll (by omega)).mono ?_
    rintro e w' ⟨rfl, hd⟩
    exact ⟨rfl, k, hr.drew hd, .inr (.inl rfl), hd.upd c c⟩

end Go.Proofs.YtaibehfpbcgijaaDoor.Asc
