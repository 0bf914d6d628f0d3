/- The decoder's map, from a code's length and bits to its symbol; NewDecoder of package huff: what it lays. What a decoder reads, as numbers; Next of a decoder that NewDecoder made, over a reader that NewReader made. -/
import Derived.Test.YthmbbpfgbpacnaaDoorPkSrtH
import Derived.StillTailTactics
import Derived.Maps.Own
import Derived.Maps.OwnOps
import Derived.Maps.OwnSet
import Derived.DeepKeys4
import Derived.Test.YthmbbpfgbpacnaaDoorPkBitE
namespace Go.Proofs.YthmbbpfgbpacnaaDoor.Huf
open Go.RowKit Go.Shelf Go.Lib Go.Proofs.YthmbbpfgbpacnaaDoor.Mem
open Go.Maps

def kl (n c : Int) : Lit := .string (keyBytes [.int .i64 n, .int .i64 c])
def wf64 (n : Int) : Prop := (Lit.int .i64 n).wf = true
/-- The map D has just the codes of the first i symbols. -/
structure MapIs (l : List Int) (i : Nat) (D : DataW Unit) : Prop where
  tidy : Tidy D
  yes : ∀ s, s < i → lenN l s ≠ 0 → Maps.has D (kl (lenN l s) (codeL l s)) = true ∧ D.atKey (kl (lenN l s) (codeL l s)) (.lit (.int .i64 0)) = .lit (.int .i64 s)
  no : ∀ n c : Int, wf64 n → wf64 c → (∀ s, s < i → lenN l s ≠ 0 → ¬ (n = lenN l s ∧ c = codeL l s)) → Maps.has D (kl n c) = false
  none_ : Maps.size D = 0 ↔ ∀ s, s < i → lenN l s = 0
theorem MapIs.start (l : List Int) : MapIs l 0 (.map []) :=
  ⟨tidy_empty, fun s hs => by omega, fun _ _ _ _ _ => rfl, ⟨fun _ s hs => by omega, fun _ => rfl⟩⟩
theorem MapIs.skip {l : List Int} {i : Nat} {D : DataW Unit} (h : MapIs l i D) (h0 : lenN l i = 0) : MapIs l (i + 1) D := by
  have e : ∀ s, s < i + 1 → lenN l s ≠ 0 → s < i := fun s hs hn => by
    rcases Nat.lt_or_ge s i with q | q
    · exact q
    · obtain rfl : s = i := by omega
      exact absurd h0 hn
  refine ⟨h.tidy, fun s hs hn => h.yes s (e s hs hn) hn, fun n c wn wc hq => h.no n c wn wc (fun s hs => hq s (by omega)), h.none_.trans ⟨fun q s hs => ?_, fun q s hs => q s (by omega)⟩⟩
  rcases Nat.lt_or_ge s i with r | r
  · exact q s r
  · obtain rfl : s = i := by omega
    exact h0
end Go.Proofs.YthmbbpfgbpacnaaDoor.Huf
namespace Go.Proofs.YthmbbpfgbpacnaaDoor.Huf
open Go.RowKit Go.Shelf Go.Lib Go.Proofs.YthmbbpfgbpacnaaDoor.Mem Go.Proofs.YthmbbpfgbpacnaaDoor.Bit
open Go.Maps

end Go.Proofs.YthmbbpfgbpacnaaDoor.Huf
