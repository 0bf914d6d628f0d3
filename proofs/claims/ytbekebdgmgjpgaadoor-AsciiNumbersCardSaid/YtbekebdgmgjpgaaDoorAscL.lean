/- Contracts of package ascii's Digits and HexDigits. -/
import Derived.Test.YtbekebdgmgjpgaaDoorRow8
import Derived.Test.YtbekebdgmgjpgaaDoorShelf
import Derived.Test.YtbekebdgmgjpgaaDoorAscE
import Derived.Lib.LaidTab
import Derived.Lib.LaidU8
import Derived.Lib.AppendIntMem
import Derived.WalkLawsBesides
namespace Go.Proofs.YtbekebdgmgjpgaaDoor.Asc
open Go.RowKit

/-- The tables that the numbers' texts are made by. -/
structure NumTabs (w : World) : Prop where
  pow : Lib.TabIs Tryd.prog w "internal/strconv.uint64pow10" .u64 Lib.pow10Tab
  tz : w.cell? ⟨6, 15, none⟩ = some (.int .u8 4)
theorem tab_of_reads {name : String} {k : IntKind} {zs : List Int} {W : World} {g : Nat} {t e : TypeId} {n : Nat}
    (hg : Tryd.prog.globalNamed name = some g) (hty : (Tryd.prog.globals[g]?).map (·.type) = some t) (ht : Tryd.prog.underlying t = some (.array n e)) (he : Tryd.prog.underlying e = some (.int k)) (hce : Tryd.prog.cellsOf e = 1) (hct : Tryd.prog.cellsOf t = n)
    (h : Lib.VarReads Tryd.prog W name (Lib.tabData k zs)) : Lib.TabIs Tryd.prog W name k zs := by
  obtain ⟨g', t', cs, fuel, p, hg', ht', hvar, hd⟩ := h
  obtain rfl := Option.some.inj (hg.symm.trans hg')
  obtain rfl := Option.some.inj (hty.symm.trans ht')
  unfold Lib.TabIs
  rw [hvar, ← Lib.cells_of_tab ht he hce hct hd]

/-- A digit to the base 16. -/
def hexC (d : Nat) : UInt8 := UInt8.ofNat (if d < 10 then 48 + d else 87 + d)
def hexF : Nat → Nat → List UInt8
  | 0, _ => []
  | f + 1, u => if u < 16 then [hexC u] else hexF f (u / 16) ++ [hexC (u % 16)]
/-- A number below 16 to the 16th, to the base 16. -/
def hexL (u : Nat) : List UInt8 := hexF 16 u

theorem hexC_at (d : Nat) (h : d < 16) (h' : d < (⟨#[48, 49, 50, 51, 52, 53, 54, 55, 56, 57, 97, 98, 99, 100, 101, 102, 103, 104, 105, 106, 107, 108, 109, 110, 111, 112, 113, 114, 115, 116, 117, 118, 119, 120, 121, 122]⟩ : ByteArray).size) : (⟨#[48, 49, 50, 51, 52, 53, 54, 55, 56, 57, 97, 98, 99, 100, 101, 102, 103, 104, 105, 106, 107, 108, 109, 110, 111, 112, 113, 114, 115, 116, 117, 118, 119, 120, 121, 122]⟩ : ByteArray)[d]'h' = hexC d := by
  have H : ∀ i : Fin 16, (⟨#[48, 49, 50, 51, 52, 53, 54, 55, 56, 57, 97, 98, 99, 100, 101, 102, 103, 104, 105, 106, 107, 108, 109, 110, 111, 112, 113, 114, 115, 116, 117, 118, 119, 120, 121, 122]⟩ : ByteArray)[i.1]'(Nat.lt_of_lt_of_le i.2 (by decide)) = hexC i.1 := by decide +kernel
  exact H ⟨d, h⟩
theorem and15 (v : Nat) : bits BinOp.and IntKind.u64 (v : Int) 15 = ((v % 16 : Nat) : Int) := by
  show IntKind.u64.wrap ((BitVec.ofInt 64 (v : Int) &&& BitVec.ofInt 64 15).toNat : Int) = _
  have e : (BitVec.ofInt 64 (v : Int) &&& BitVec.ofInt 64 15).toNat = v % 16 := by
    rw [BitVec.toNat_and, BitVec.ofInt_natCast, BitVec.toNat_ofNat, show (BitVec.ofInt 64 15).toNat = 2 ^ 4 - 1 from rfl, Nat.and_two_pow_sub_one_eq_mod]
    omega
  rw [e]
  have : v % 16 < 16 := Nat.mod_lt _ (by omega)
  rw [IntKind.wrap_u64]
  omega

set_option maxRecDepth 100000 in
set_option maxHeartbeats 1000000 in
theorem tz16 (w : World) (h : w.cell? ⟨6, 15, none⟩ = some (.int .u8 4)) : Calls Tryd.prog 110 #[.int .u64 16] w fun e w' => e = .returned (.int .i64 4) ∧ w = w' := by
  have hx : IntKind.u64.wrap (bits BinOp.and IntKind.u64 16 (IntKind.u64.wrap (-16)) * 285870213051353865) / 288230376151711744 = 15 := by decide +kernel
  go_enter Tryd.func110, Tryd.ntmps110
  go_wp2
  go_ret
  exact ⟨rfl, rfl⟩

set_option maxRecDepth 100000 in
set_option maxHeartbeats 1000000 in
theorem pow16 (w : World) : Calls Tryd.prog 109 #[.int .i64 16] w fun e w' => e = .returned (.bool true) ∧ w = w' := by
  go_enter Tryd.func109, Tryd.ntmps109
  go_wp2
  go_ret
  exact ⟨rfl, rfl⟩

theorem hexF_big (f u : Nat) (h : 16 ≤ u) : hexF (f + 1) u = hexF f (u / 16) ++ [hexC (u % 16)] := by rw [hexF, if_neg (by omega)]
theorem hexF_small (f u : Nat) (h : u < 16) : hexF (f + 1) u = [hexC u] := by rw [hexF, if_pos h]
theorem pow_lt (v n u : Nat) (hv : 16 ≤ v) (h : v * 16 ^ n ≤ u) (hu : u < 18446744073709551616) : n ≤ 14 := by
  refine Nat.le_of_not_lt fun hn => ?_
  have h1 : 16 ^ 15 ≤ 16 ^ n := Nat.pow_le_pow_right (by omega) hn
  have h2 : 16 * 16 ^ 15 ≤ v * 16 ^ n := Nat.mul_le_mul hv h1
  have h3 : 16 * 16 ^ 15 = 18446744073709551616 := rfl
  omega
/-- What the loop over a number's digits holds: v is left, the digits suf stand from place p on. -/
def Hx (u v p : Nat) (suf : List UInt8) (f : Nat → UInt8) : Prop :=
  p + suf.length = 65 ∧ suf.length ≤ 15 ∧ v * 16 ^ suf.length ≤ u ∧ hexL u = hexF (16 - suf.length) v ++ suf ∧ ∀ j, j < suf.length → suf.getD j 0 = f (p + j)
theorem Hx.step {u v p : Nat} {suf : List UInt8} {f : Nat → UInt8} (h : Hx u v p suf f) (hv : 16 ≤ v) (hu : u < 18446744073709551616) :
    Hx u (v / 16) (p - 1) (hexC (v % 16) :: suf) (fun j => if j = p - 1 then hexC (v % 16) else f j) ∧ 2 ≤ p := by
  obtain ⟨h1, h2, h3, h4, h5⟩ := h
  have hn := pow_lt v _ u hv h3 hu
  refine ⟨⟨by simp; omega, by simp; omega, ?_, ?_, fun j hj => ?_⟩, by omega⟩
  · rw [List.length_cons, Nat.pow_succ, Nat.mul_comm (16 ^ suf.length) 16, ← Nat.mul_assoc]
    exact Nat.le_trans (Nat.mul_le_mul_right _ (Nat.div_mul_le_self v 16)) h3
  · rw [h4, show 16 - suf.length = (16 - (suf.length + 1)) + 1 by omega, hexF_big _ _ hv, List.length_cons, List.append_assoc]
    rfl
  · cases j with
    | zero => simp
    | succ j =>
      dsimp only
      rw [if_neg (by omega), show p - 1 + (j + 1) = p + j by omega]
      simpa using h5 j (by simpa using hj)
theorem Hx.last {u v p : Nat} {suf : List UInt8} {f : Nat → UInt8} (h : Hx u v p suf f) (hv : v < 16) :
    hexL u = hexC v :: suf ∧ 50 ≤ p ∧ p ≤ 65 ∧ (hexC v :: suf).length = 65 - (p - 1) ∧ ∀ j, j < 65 - (p - 1) → (hexC v :: suf).getD j 0 = (fun j => if j = p - 1 then hexC v else f j) (p - 1 + j) := by
  obtain ⟨h1, h2, h3, h4, h5⟩ := h
  refine ⟨?_, by omega, by omega, by simp; omega, fun j hj => ?_⟩
  · rw [h4, show 16 - suf.length = (15 - suf.length) + 1 by omega, hexF_small _ _ hv]
    rfl
  · cases j with
    | zero => simp
    | succ j =>
      dsimp only
      rw [if_neg (by omega), show p - 1 + (j + 1) = p + j by omega]
      simpa using h5 j (by omega)

theorem zero65 : Tryd.zeroCells124 = Array.replicate 65 (.int .u8 0) := by kernel_rfl
theorem row65 (w : World) : RowF (w.alloc (.cells Tryd.zeroCells124 124)) w.heap.size 65 (fun _ => 0) := by
  refine ⟨_, _, _, heap_alloc_new _ _, by rw [zero65]; simp, fun j _ => by simp, fun j hj => ?_⟩
  rw [zero65, Array.getElem?_replicate, if_pos hj]
  rfl

theorem slice65 (g p : Nat) (h1 : 1 ≤ p) (h2 : p ≤ 65) (W : World) : (Instr.sliceAt 124 (.pointer (some ⟨g, 0, none⟩)) (some (.int .i64 ((p : Int) - 1))) none none).run Tryd.prog W = .ok (.slice (some ⟨g, p - 1, none⟩) (65 - (p - 1)) (65 - (p - 1))) W := by
  have hal : Tryd.prog.arrayLen 124 = 65 := by simp [Program.arrayLen, Tryd.underlying124]
  have hel : Tryd.prog.elem 124 = 5 := by simp [Program.elem, Tryd.underlying124]
  have ht : Tryd.prog.underlying 124 = some (.array (Tryd.prog.arrayLen 124) (Tryd.prog.elem 124)) := by rw [hal, hel]; exact Tryd.underlying124
  rw [run_sliceAt_array_l W 124 ⟨g, 0, none⟩ ht .i64 ((p : Int) - 1) (by omega) (by rw [hal]; omega), hel, Tryd.sizeOf5, hal]
  simp only [Result.andThen]
  unfold slicedAt
  have e : ((p : Int) - 1).toNat = p - 1 := by omega
  have hne : ¬ 65 = p - 1 := by omega
  have ea : (⟨g, 0, none⟩ : Addr).add ((p - 1) * 1) = ⟨g, p - 1, none⟩ := by
    unfold Addr.add
    split <;> simp_all
  simp only [e]
  rw [if_neg hne, ea]

set_option maxRecDepth 100000 in
set_option maxHeartbeats 2000000 in
theorem fmt16 (u : Nat) (hu : u < 18446744073709551616) (w : World) (h : w.cell? ⟨6, 15, none⟩ = some (.int .u8 4)) :
    Calls Tryd.prog 98 #[.slice none 0 0, .int .u64 (u : Int), .int .i64 16, .bool false, .bool false] w fun e w' => e = .returned (.tuple #[.slice none 0 0, .string ⟨(hexL u).toArray⟩]) ∧ Below w.heap.size w w' := by
  have hgl := block_lt_of_cell h
  have HT : ∀ o, Hid (Calls Tryd.prog 110 #[.int .u64 16] (w.alloc o) fun e w' => e = .returned (.int .i64 4) ∧ w.alloc o = w') := fun o =>
    tz16 _ ((World.cell?_alloc_lt w o _ hgl).trans h)
  have HU := Lib.hid hu
  clear h hgl hu
  go_enter Tryd.func98, Tryd.ntmps98
  go_wp2_with (first
    | (go_at_call 109; refine (pow16 _).mono ?_; rintro e w1 ⟨rfl, rfl⟩)
    | (go_at_call 110; refine (HT _).out.mono ?_; rintro e w2 ⟨rfl, rfl⟩))
  have HR0 := Lib.hid (row65 w)
  have HB0 : Hid (Below w.heap.size w (w.alloc (.cells Tryd.zeroCells124 124))) := (Below.refl _ _).alloc (Nat.le_refl _) _
  go_loopw [1, 13] (fun a b wr => ∃ (v p : Nat) (suf : List UInt8) (f : Nat → UInt8), a = .int .u64 v ∧ b = .int .i64 p ∧ Hx u v p suf f ∧ RowF wr w.heap.size 65 f ∧ Below w.heap.size w wr) (fun a _ _ => (intOf a).toNat)
  case atStart => exact ⟨u, 65, [], fun _ => 0, rfl, rfl, ⟨rfl, by simp, by simp, by simp [hexL], fun j hj => absurd hj (by simp)⟩, HR0.out, HB0.out⟩
  case round =>
    obtain ⟨v, p, suf, f, rfl, rfl, hx, hrow, hbe⟩ := hrel
    have hvu : v ≤ u := by
      have h3 := hx.2.2.1
      have hpos : 0 < 16 ^ suf.length := Nat.pow_pos (by omega)
      exact Nat.le_trans (Nat.le_mul_of_pos_right v hpos) h3
    have hv64 : v < 18446744073709551616 := Nat.lt_of_le_of_lt hvu HU.out
    have hvi : (v : Int) ≤ 18446744073709551615 := by omega
    have HX := Lib.hid hx
    have HB := Lib.hid hbe
    have HRow := Lib.hid hrow
    have hp65 : p ≤ 65 := by have := hx.1; omega
    clear hx hbe hv64 hvu
    by_cases hv : 16 ≤ v
    · obtain ⟨hn, hp2⟩ := HX.out.step hv HU.out
      have HN := Lib.hid hn
      have hp1 : p - 1 < 65 := by omega
      have hc := hrow.cell hp1
      have hf := hrow.frozen hp1
      have hm := Nat.mod_lt v (show 0 < 16 by omega)
      have hand := and15 v
      have hidx := hexC_at (v % 16) hm (by show v % 16 < 36; omega)
      have hvi16 : (16 : Int) ≤ v := by omega
      clear hn hrow
      go_wp2
      go_roundw
      case rel => exact ⟨v / 16, p - 1, _, _, by go_num, by congr 1; omega, HN.out, HRow.out.set (p - 1) (hexC (v % 16)), HB.out.setCell (p := ⟨w.heap.size, p - 1, none⟩) (Nat.le_refl _) _⟩
      case measure => simp [intOf]; omega
    · obtain ⟨hl, hp50, hp65', hlen, hat⟩ := HX.out.last (by omega)
      have hp1 : p - 1 < 65 := by omega
      have hc := hrow.cell hp1
      have hf := hrow.frozen hp1
      have hv16 : v < 16 := by omega
      have hidx := hexC_at v hv16 (by show v < 36; omega)
      have hvi16 : (v : Int) < 16 := by omega
      have hback := back_at (hexC v :: suf) _ w.heap.size (p - 1) (65 - (p - 1)) 65 (65 - (p - 1)) _ (hrow.set (p - 1) (hexC v)) hlen (by omega) hat
      have HL := Lib.hid hl
      have hsl := slice65 w.heap.size p (by omega) hp65
      clear hrow hl hlen hat
      go_wp2
      go_ret2
      exact ⟨by rw [HL.out]; rfl, HB.out.setCell (p := ⟨w.heap.size, p - 1, none⟩) (Nat.le_refl _) _⟩

end Go.Proofs.YtbekebdgmgjpgaaDoor.Asc
