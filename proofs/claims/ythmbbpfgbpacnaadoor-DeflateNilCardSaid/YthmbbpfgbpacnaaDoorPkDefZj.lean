/- Package deflate: blocks are read back, one behind the other (no program). Package deflate: two texts that are known (no program). -/
import Derived.Test.YthmbbpfgbpacnaaDoorPkDefZe
import Derived.Test.YthmbbpfgbpacnaaDoorPkInfM
namespace Go.Proofs.YthmbbpfgbpacnaaDoor.Def
open Go.RowKit Go.Shelf Go.Lib Go.Proofs.YthmbbpfgbpacnaaDoor.Mem Go.Proofs.YthmbbpfgbpacnaaDoor.Bit Go.Proofs.YthmbbpfgbpacnaaDoor.Huf Go.Proofs.YthmbbpfgbpacnaaDoor.Lz Go.Proofs.YthmbbpfgbpacnaaDoor.Inf

theorem tellO_B (last way begin : Nat) (ps : List Pc) (b : List UInt8) : opsB (tellO last way begin ps b) = bitsOf ((last : Nat) : Int) 1 ++ (bitsOf ((way : Nat) : Int) 2 ++ opsB (bodyO way begin ps b)) := by
  unfold tellO
  rw [opsB_append, opsB_cons, opsB_cons]
  show (_ ++ (_ ++ [])) ++ _ = _
  simp only [List.append_assoc, List.append_nil]
end Go.Proofs.YthmbbpfgbpacnaaDoor.Def
namespace Go.Proofs.YthmbbpfgbpacnaaDoor.Def
open Go.RowKit Go.Shelf Go.Lib Go.Proofs.YthmbbpfgbpacnaaDoor.Mem Go.Proofs.YthmbbpfgbpacnaaDoor.Bit Go.Proofs.YthmbbpfgbpacnaaDoor.Huf Go.Proofs.YthmbbpfgbpacnaaDoor.Lz Go.Proofs.YthmbbpfgbpacnaaDoor.Inf

def abc : List UInt8 := [97, 98, 99]
def abcP : List Pc := [litP 97, litP 98, litP 99]
theorem pieces_6 : piecesD abc 6 = abcP := by
  unfold piecesD
  rw [if_neg (by decide)]
  rcases piecesR_cases abc 32768 ((2 * 2 ^ 6 : Nat) : Int) with ⟨-, -, h⟩ | ⟨wd, dp, h1, h2, -, -, -, -, h7⟩
  · have : abc.length = 3 := rfl
    omega
  · rw [h7]
    obtain rfl : wd = 32768 := by omega
    obtain rfl : dp = 128 := by omega
    decide +kernel
theorem pieces_0 : piecesD abc 0 = abcP := rfl
theorem known_pos {l : List Int} {s : Nat} (h : Known l s) : 1 ≤ lenN l s := by have := h.2; omega
theorem runs_w (o : List Int) : ∀ rs : List (Int × Nat × Nat), (∀ r ∈ rs, Known o r.1.toNat) → rs.length ≤ opsW (rs.flatMap (runO o))
  | [], _ => Nat.le_refl _
  | r :: rs, h => by
    have ih := runs_w o rs (fun x hx => h x (List.mem_cons_of_mem _ hx))
    have := known_pos (h r List.mem_cons_self)
    rw [List.flatMap_cons, opsW_append, runO_w, List.length_cons]
    omega
theorem dyn_least {ps : List Pc} (h : DynOk ps) : 27 ≤ opsW (headO (lR ps) (dR ps)) := by
  obtain ⟨-, -, -, s4, -⟩ := lor_spec (rowR (lR ps) (dR ps)) h.rv (by have := h.rn; omega) (by have := h.rn; omega)
  have h1 := runs_w _ _ s4
  have h2 := runsN_pos (rowR (lR ps) (dR ps)) (by have := h.rn; omega)
  have h3 : 4 ≤ (otR (lorR (rowR (lR ps) (dR ps)))).length := by
    have := toldN_bd (ordR (lorR (rowR (lR ps) (dR ps)))) 4 (ordR (lorR (rowR (lR ps) (dR ps)))).length (by rw [ordR_len]; decide)
    have := ordR_len (lorR (rowR (lR ps) (dR ps)))
    unfold otR
    rw [List.length_take]
    omega
  unfold headO
  rw [opsW_append, opsW_append, thrO_w, opsW3]
  omega
theorem abc_may : ∀ p ∈ abcP, mayB p = true := by decide
theorem pcO_lit (l d : List Int) (c : UInt8) : pcO l d (litP c) = [symO l c.toNat, (0, 0)] := by
  unfold pcO
  rw [if_pos (show (litP c).len = 0 from rfl)]
  rfl
theorem abc_syms (l d : List Int) : opsW (symsO l d abcP) = lenN l 97 + (lenN l 98 + (lenN l 99 + lenN l 256)) := by
  unfold symsO abcP
  rw [List.flatMap_cons, List.flatMap_cons, List.flatMap_cons, List.flatMap_nil, pcO_lit, pcO_lit, pcO_lit]
  show lenN l 97 + (0 + (lenN l 98 + (0 + (lenN l 99 + (0 + (lenN l 256 + (0 + 0))))))) = _
  omega
theorem abc_size0 : szN 1 0 abcP abc 0 = 64 := by decide +kernel
theorem abc_size1 : szN 1 0 abcP abc 1 = 34 := by
  unfold szN
  rw [tellO_w]
  show 3 + opsW (symsO fixL fixD abcP) = 34
  rw [abc_syms]
  decide +kernel
theorem bodyO_2 (begin : Nat) (ps : List Pc) (b : List UInt8) : bodyO 2 begin ps b = headO (lR ps) (dR ps) ++ symsO (lR ps) (dR ps) ps := rfl
theorem bodyO_1 (begin : Nat) (ps : List Pc) (b : List UInt8) : bodyO 1 begin ps b = symsO fixL fixD ps := rfl
theorem abc_size2 : 34 ≤ szN 1 0 abcP abc 2 := by
  have hd := dynOk abcP abc_may (by decide)
  have h1 := dyn_least hd
  have k97 : Known (lR abcP) 97 := hd.k (litP 97) (by decide)
  have k98 : Known (lR abcP) 98 := hd.k (litP 98) (by decide)
  have k99 : Known (lR abcP) 99 := hd.k (litP 99) (by decide)
  have p1 := known_pos k97
  have p2 := known_pos k98
  have p3 := known_pos k99
  have p4 := known_pos hd.k256
  unfold szN
  rw [tellO_w]
  rw [bodyO_2, opsW_append, abc_syms]
  omega
theorem blocks_6 : blocksD abc 6 1 = [⟨abcP, abc, 1, 3⟩] := by
  unfold blocksD
  have hf : fillF 6 abcP 0 0 = (3, 3) := by decide +kernel
  have hl : abcP.length = 3 := rfl
  have ht : abcP.take 3 = abcP := rfl
  have hb : abc.take 3 = abc := rfl
  rw [pieces_6, if_neg (by decide), hl, show 3 + 2 = 4 + 1 from rfl, blocksF_succ, hf, if_neg (by rw [hl]; decide), ht, hb]
theorem blocks_00 : blocksD abc 0 1 = [⟨abcP, abc, 1, 1⟩] := by
  unfold blocksD
  have hf : fillF 0 abcP 0 0 = (3, 3) := by decide +kernel
  have hl : abcP.length = 3 := rfl
  have ht : abcP.take 3 = abcP := rfl
  have hb : abc.take 3 = abc := rfl
  rw [pieces_0, if_pos rfl, hl, show 3 + 2 = 4 + 1 from rfl, blocksF_succ, hf, if_neg (by rw [hl]; decide), ht, hb]
theorem way_6 : PB.way ⟨abcP, abc, 1, 3⟩ 0 = 1 := by
  show (bestF (szN 1 0 abcP abc) 2).1 = 1
  have h0 := abc_size0
  have h1 := abc_size1
  have h2 := abc_size2
  generalize szN 1 0 abcP abc = s at *
  have e1 : bestF s 1 = (1, s 1) := by
    show (if s 1 < s 0 then (1, s 1) else (0, s 0)) = _
    rw [if_pos (by omega)]
  show (if s 2 < (bestF s 1).2 then (2, s 2) else bestF s 1).1 = 1
  rw [e1, if_neg (by simp only; omega)]
theorem defl_6 : deflB abc 6 = [75, 76, 74, 6, 0] := by
  unfold deflB
  rw [blocks_6]
  show pk (blk1 [] ⟨abcP, abc, 1, 3⟩) = _
  have e : blk1 [] ⟨abcP, abc, 1, 3⟩ = opsB (tellO 1 1 0 abcP abc) := by
    unfold blk1
    rw [List.length_nil, way_6]
    rfl
  rw [e, tellO_B]
  rw [bodyO_1, symsO_B]
  decide +kernel
theorem defl_0 : deflB abc 0 = [1, 3, 0, 252, 255, 97, 98, 99] := by
  unfold deflB
  rw [blocks_00]
  decide +kernel
end Go.Proofs.YthmbbpfgbpacnaaDoor.Def
