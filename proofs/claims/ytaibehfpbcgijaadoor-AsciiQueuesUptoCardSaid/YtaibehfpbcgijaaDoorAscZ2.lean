/- Lent bytes stay as they were. -/
import Derived.Test.YtaibehfpbcgijaaDoorAscZ
namespace Go.Proofs.YtaibehfpbcgijaaDoor.Asc
open Go.RowKit Go.Shelf

theorem conv_src (W : World) (x : Value) (l : List UInt8) (h : Src W x l) : (convert 45 9 x).run Tryd.prog W = .ok (.string ⟨l.toArray⟩) W := by
  rcases h with ⟨rfl, rfl⟩ | ⟨a, c, rfl, hc⟩
  · rw [run_convert_bytes_string W 45 9 5 none 0 0 Tryd.underlying45 Tryd.underlying5 Tryd.underlying9]
    rfl
  · refine run_convert_bytes_back W 45 9 5 a c l Tryd.underlying45 Tryd.underlying5 Tryd.underlying9 (fun j hj => ?_)
    refine hc j _ ?_
    rw [bVs, List.getElem?_map, List.getElem?_eq_getElem hj]
    rfl

set_option maxRecDepth 100000 in
set_option maxHeartbeats 4000000 in
theorem stays_any (W : World) (B k cap c : Nat) (ax : Option Addr) (l : List UInt8) (hx : Src W (.slice ax l.length c) l) (ho : W.ownsRow B 5 1 (.slice (some ⟨k, 0, none⟩) (l.length + 2) cap) (l.length + 2) (bVs (l ++ [201, 202]))) (hcap : l.length + 2 ≤ cap) (hl : l.length ≤ 1048576) :
    Calls Tryd.prog 55 #[.slice (some ⟨k, 0, none⟩) l.length cap, .slice ax l.length c] W fun e w' => e = .returned (.bool true) ∧ ∃ m, w' = W.drewN m := by
  have hc2 : cap ≤ 9223372036854775807 := by
    rcases ho.2 with ⟨hv, _⟩ | ⟨g, cap', cur, hv, _, _, _, h3, _⟩
    · cases hv
    · cases hv; unfold maxLen at h3; omega
  have hs : Src W (.slice (some ⟨k, 0, none⟩) l.length cap) l := by
    have := src_take (m := l.length) ho (by rw [List.length_append]; rfl) (by omega)
    rw [List.take_append_of_le_length (Nat.le_refl _), List.take_length] at this
    exact this
  have s1 : ∀ m, (convert 45 9 (.slice (some ⟨k, 0, none⟩) l.length cap)).run Tryd.prog (W.drewN m) = .ok (.string ⟨l.toArray⟩) (W.drewN m) := fun m => conv_src _ _ l (hs.below ((⟨rfl, rfl, rfl, rfl⟩ : Drew W (W.drewN m)).below _))
  have s2 : ∀ m, (convert 45 9 (.slice ax l.length c)).run Tryd.prog (W.drewN m) = .ok (.string ⟨l.toArray⟩) (W.drewN m) := fun m => conv_src _ _ l (hx.below ((⟨rfl, rfl, rfl, rfl⟩ : Drew W (W.drewN m)).below _))
  have c1 : W.cell? ⟨k, l.length, none⟩ = some (.int .u8 201) := by
    have := row_cell ho l.length (by rw [List.length_append]; simp)
    rw [Lib.addr_add, Nat.zero_add] at this
    simpa using this
  have c2 : W.cell? ⟨k, l.length + 1, none⟩ = some (.int .u8 202) := by
    have := row_cell ho (l.length + 1) (by rw [List.length_append]; simp)
    rw [Lib.addr_add, Nat.zero_add] at this
    simpa using this
  have mixed : Tryd.prog.follows .mixedOrders = true := by kernel_rfl
  clear hx ho hs
  generalize (⟨l.toArray⟩ : ByteArray) = str at s1 s2
  generalize l.length = n at *
  go_enter Tryd.func55, Tryd.ntmps55
  go_wp2
  go_quiet (fail)
  go_wp2
  go_ret
  exact ⟨rfl, _, rfl⟩

end Go.Proofs.YtaibehfpbcgijaaDoor.Asc
