/- Package deflate: what was flushed, piece by piece, is read back (no program). Package deflate: a stream, what was written and what came of it, side by side: a round of DeflateFlushed. Package deflate: a round of DeflateFlushed, and what is behind the last one. -/
import Derived.Test.YthmbbpfgbpacnaaGreatDoorPmDefSt
import Derived.Test.YthmbbpfgbpacnaaGreatDoorPmDefSm
import Derived.Test.YthmbbpfgbpacnaaGreatDoorPmLawDBack
namespace Go.Proofs.YthmbbpfgbpacnaaGreatDoor.Def
open Go.RowKit Go.Shelf Go.Lib Mem Bit Huf Lz Inf
theorem cpN_shift (d : Nat) : ∀ (n : Nat) (al out : List UInt8), d <= out.length -> 1 <= d -> cpN n d (al ++ out) = al ++ cpN n d out
 | 0, _, _, _, _ => rfl
 | n + 1, al, out, h, h1 => by
  rw [cpN_succ, cpN_succ]
  have e : (al ++ out).getD ((al ++ out).length - d) 0 = out.getD (out.length - d) 0 := by
   rw [List.getD_eq_getElem?_getD, List.getD_eq_getElem?_getD, List.length_append, List.getElem?_append_right (by omega), show al.length + out.length - d - al.length = out.length - d by omega]
  rw [e, List.append_assoc]
  exact cpN_shift d n al _ (by rw [List.length_append]; omega) h1
theorem onto_shift (p : Pc) (al out : List UInt8) (hm : mayB p = true) (h : p.dist <= (out.length : Int)) : ontoN p (al ++ out) = al ++ ontoN p out := by
 unfold ontoN
 split
 ·rw [List.append_assoc]
 ·rename_i h0
  obtain ⟨n, k, en, ek, -, -, k1, k2⟩ := may_len hm h0
  rw [ek]
  rw [ek] at h
  exact cpN_shift _ _ al out (by omega) (by omega)
theorem exp_shift (M : Int) (al : List UInt8) : ∀ (ps : List Pc) (out w : List UInt8), expR ps M out = (w, 0) -> ((al.length + w.length : Nat) : Int) <= M -> expR ps M (al ++ out) = (al ++ w, 0)
 | [], out, w, h, _ => by
  obtain rfl : out = w := congrArg Prod.fst h
  rfl
 | p :: ps, out, w, h, hM => by
  have hl := exp_len _ _ _ _ h
  have hs : sumP (p :: ps) = (max p.len 1).toNat + sumP ps := rfl
  rw [expR_cons] at h ⊢
  split at h
  ·cases congrArg Prod.snd h
  ·rename_i h1
   split at h
   ·cases congrArg Prod.snd h
   ·rename_i h2
    have hmay : mayB p = true := by simpa using fun q => h1 (.inl q)
    have hd : p.dist <= (out.length : Int) := by
     rcases Classical.em ((out.length : Int) < p.dist) with q | q
     ·exact absurd (.inr q) h1
     ·omega
    rw [if_neg (by
     rintro (q | q)
     ·rw [hmay] at q; cases q
     ·rw [List.length_append] at q; omega), if_neg (by rw [List.length_append]; omega), onto_shift p al out hmay hd]
    exact exp_shift M al ps _ w h hM
theorem chain_shift (M : Int) (al : List UInt8) : ∀ (xs : List PB) (out : List UInt8), Chain M xs out -> ((al.length + out.length + (xs.map PB.b).flatten.length : Nat) : Int) <= M -> Chain M xs (al ++ out)
 | [], _, _, _ => trivial
 | x :: xs, out, h, hM => by
  rw [List.map_cons, List.flatten_cons, List.length_append] at hM
  refine ⟨?_, h.2.1, ?_⟩
  ·rw [List.append_assoc]
   exact exp_shift M al x.ps out _ h.1 (by rw [List.length_append]; omega)
  ·rw [List.append_assoc]
   exact chain_shift M al xs _ h.2.2 (by rw [List.length_append]; omega)
theorem body_shift (way m n : Nat) (hm : m % 8 = 0) (ps : List Pc) (b : List UInt8) : bodyO way (m + n) ps b = bodyO way n ps b := by
 have e : padN (m + n + 3) = padN (n + 3) := by unfold padN; omega
 unfold bodyO storO
 rw [e]
theorem tell_shift (last way m n : Nat) (hm : m % 8 = 0) (ps : List Pc) (b : List UInt8) : tellO last way (m + n) ps b = tellO last way n ps b := by
 unfold tellO
 rw [body_shift way m n hm]
theorem way_shift (x : PB) (m n : Nat) (hm : m % 8 = 0) : x.way (m + n) = x.way n := by
 have e : szN x.last (m + n) x.ps x.b = szN x.last n x.ps x.b := by
  funext k
  unfold szN
  rw [tell_shift x.last k m n hm]
 unfold PB.way
 rw [e]
theorem blk1_shift (O L : List Bool) (x : PB) (hO : O.length % 8 = 0) : blk1 (O ++ L) x = O ++ blk1 L x := by
 unfold blk1
 rw [List.length_append, way_shift x _ _ hO, tell_shift _ _ _ _ hO, List.append_assoc]
theorem stream_shift (O : List Bool) (hO : O.length % 8 = 0) : ∀ (xs : List PB) (L : List Bool), streamB (O ++ L) xs = O ++ streamB L xs
 | [], _ => rfl
 | x :: xs, L => by
  show streamB (blk1 (O ++ L) x) xs = _
  rw [blk1_shift O L x hO]
  exact stream_shift O hO xs _
theorem read_on (F : Nat) (hF : 32769 <= F) : ∀ (xs : List PB) (L Q : List Bool) (out : List UInt8) (bl : List (Nat × Nat)) (f : Nat), Chain ((1048576 : Nat) : Int) xs out -> (∀ x ∈ xs, x.last = 0) -> out.length + (xs.map PB.b).flatten.length <= 1048576 ->
  readP F (pk (streamB L xs ++ Q)) 1048576 (f + xs.length) out bl L.length = readP F (pk (streamB L xs ++ Q)) 1048576 f (out ++ (xs.map PB.b).flatten) (bl ++ kindsB L xs) (streamB L xs).length
 | [], L, Q, out, bl, f, _, _, _ => by
  show readP F (pk (L ++ Q)) 1048576 f out bl L.length = readP F (pk (L ++ Q)) 1048576 f (out ++ []) (bl ++ []) L.length
  rw [List.append_nil, List.append_nil]
 | x :: xs, L, Q, out, bl, f, hc, hl, hm => by
  have hn := hc.2.1.n
  rw [List.map_cons, List.flatten_cons, List.length_append] at hm
  obtain ⟨t, ht⟩ := streamB_pre xs (blk1 L x)
  have h := block_back x hc.2.1 L (t ++ Q) out hc.1 (by omega) F (f + xs.length) (by omega) bl
  rw [if_pos (hl x List.mem_cons_self), <- List.append_assoc, <- ht] at h
  have ih := read_on F hF xs (blk1 L x) Q (out ++ x.b) (bl ++ [(x.way L.length, x.b.length)]) f hc.2.2 (fun y hy => hl y (List.mem_cons_of_mem _ hy)) (by rw [List.length_append]; omega)
  show readP F (pk (streamB (blk1 L x) xs ++ Q)) 1048576 (f + (xs.length + 1)) out bl L.length = _
  rw [<- Nat.add_assoc, h, ih, List.map_cons, List.flatten_cons, List.append_assoc, List.append_assoc]
  rfl
structure Flown (O : List Bool) (al : List UInt8) (n : Nat) : Prop where
 a8 : O.length % 8 = 0
 go : ∀ (Q : List Bool) (f : Nat), ∃ bl, readP FU (pk (O ++ Q)) 1048576 (f + n) [] [] 0 = readP FU (pk (O ++ Q)) 1048576 f al bl O.length
theorem Flown.start : Flown [] [] 0 := ⟨rfl, fun _ _ => ⟨[], rfl⟩⟩
theorem noPB_len (L : List Bool) : (blk1 L noPB).length % 8 = 0 := by
 unfold blk1
 rw [List.length_append, opsB_len, way_one rfl, tellO_w]
 show (L.length + (3 + opsW (storO L.length []))) % 8 = 0
 rw [storO_w]
 unfold padN
 rw [List.length_nil]
 omega
def flushX (b : List UInt8) (lv : Nat) : List PB := blocksD b lv 0 ++ [noPB]
theorem flushX_bits (b : List UInt8) (lv : Nat) (L : List Bool) : streamB L (flushX b lv) = blk1 (streamB L (blocksD b lv 0)) noPB := by
 unfold flushX streamB
 rw [List.foldl_append]
 rfl
theorem chain_append {M : Int} : ∀ (xs ys : List PB) (out : List UInt8), Chain M xs out -> Chain M ys (out ++ (xs.map PB.b).flatten) -> Chain M (xs ++ ys) out
 | [], ys, out, _, h => by rw [List.map_nil, List.flatten_nil, List.append_nil] at h; exact h
 | x :: xs, ys, out, h, h2 => ⟨h.1, h.2.1, chain_append xs ys _ h.2.2 (by rw [List.map_cons, List.flatten_cons] at h2; rw [List.append_assoc]; exact h2)⟩
theorem flushX_ok (b : List UInt8) (lv : Nat) (hb : b.length <= 524288) (hl : lv <= 9) : Chain ((1048576 : Nat) : Int) (flushX b lv) [] /\ ((flushX b lv).map PB.b).flatten = b /\ (∀ x ∈ flushX b lv, x.last = 0) /\ (flushX b lv).length <= b.length + 3 := by
 obtain ⟨hc, hf⟩ := blocksD_chain b lv 0 (by omega) hl (by decide)
 have hn := blocksD_len b lv 0 (by omega) hl
 unfold flushX
 refine ⟨chain_append _ _ _ hc ⟨by rw [hf, List.nil_append]; show expR [] _ b = (b ++ [], 0); rw [List.append_nil]; rfl, noPB_ok, trivial⟩, ?_, fun x hx => ?_, ?_⟩
 ·rw [List.map_append, List.flatten_append, hf]
  show b ++ ([] ++ []) = b
  rw [List.append_nil, List.append_nil]
 ·rcases List.mem_append.1 hx with hx | hx
  ·unfold blocksD at hx
   exact blocksF_zero _ _ _ _ _ x hx
  ·rw [List.mem_singleton.1 hx]; rfl
 ·rw [List.length_append, List.length_singleton]; omega
theorem Flown.flush {O : List Bool} {al b : List UInt8} {n lv : Nat} (h : Flown O al n) (hb : al.length + b.length <= 524288) (hl : lv <= 9) : Flown (O ++ streamB [] (flushX b lv)) (al ++ b) (n + (flushX b lv).length) := by
 obtain ⟨hc, hf, hz, -⟩ := flushX_ok b lv (by omega) hl
 have he := stream_shift O h.a8 (flushX b lv) []
 rw [List.append_nil] at he
 refine ⟨?_, fun Q f => ?_⟩
 ·rw [<- he, flushX_bits]
  exact noPB_len _
 ·obtain ⟨t, ht⟩ := streamB_pre (flushX b lv) O
  obtain ⟨bl, h1⟩ := h.go (t ++ Q) (f + (flushX b lv).length)
  have hc2 := chain_shift ((1048576 : Nat) : Int) al (flushX b lv) [] hc (by rw [hf, List.length_nil]; omega)
  rw [List.append_nil] at hc2
  have h2 := read_on FU (by rw [FU_eq]; decide) (flushX b lv) O Q al bl f hc2 hz (by rw [hf]; omega)
  rw [hf] at h2
  rw [<- List.append_assoc, <- ht] at h1
  rw [<- he]
  exact ⟨_, by rw [show f + (n + (flushX b lv).length) = f + (flushX b lv).length + n by omega, h1, h2]⟩
theorem Flown.bytes {O : List Bool} {al : List UInt8} {n : Nat} (h : Flown O al n) (m : List Bool) : pk (O ++ m) = pk O ++ pk m := pk_whole O m h.a8
def endB : List Bool := bitsOf 1 1 ++ (bitsOf 1 2 ++ symB fixL 256)
theorem endB_bytes : pk endB = [3, 0] := by decide +kernel
theorem Flown.ended {O : List Bool} {al : List UInt8} {n : Nat} (h : Flown O al n) (hn : n <= 8000000) (hO : (pk O).length <= 1000000) : (inflR (pk O ++ [3, 0]) 1048576).1 = al /\ (inflR (pk O ++ [3, 0]) 1048576).2.2.2 = 0 := by
 obtain ⟨f, hf⟩ : ∃ f, FU = (f + 1) + n := ⟨FU - (1 + n), by rw [FU_eq]; omega⟩
 obtain ⟨bl, h1⟩ := h.go endB (f + 1)
 have hs := syms_back fixL_fine fixD_fine (fix_known 256 (by decide)) 1048576 1048576 (Nat.le_refl _) al [] (FU - 1) [] (O ++ bitsOf 1 1 ++ bitsOf 1 2) al (fun p hp => by cases hp) rfl
 have t1 := takeP_at2 O (bitsOf 1 2 ++ symB fixL 256) 1 1 (by decide)
 have t2 := takeP_at2 (O ++ bitsOf 1 1) (symB fixL 256) 1 2 (by decide)
 have e1 : O ++ endB = O ++ (bitsOf ((1 : Nat) : Int) 1 ++ (bitsOf 1 2 ++ symB fixL 256)) := rfl
 have hfu : ([] : List Pc).length + 1 + (FU - 1) = FU := by rw [List.length_nil, FU_eq]
 rw [hfu, List.flatMap_nil] at hs
 simp only [List.append_assoc, List.append_nil] at hs t1 t2
 have hb : bodyP FU (pk (O ++ endB)) 1048576 1 al (O ++ (bitsOf 1 1 ++ bitsOf 1 2)).length = .ok al (O ++ (bitsOf 1 1 ++ (bitsOf 1 2 ++ symB fixL 256))).length := by
  unfold bodyP
  rw [if_neg (by decide), if_pos rfl]
  exact hs
 have hst : strP (pk (O ++ endB)) 1048576 = .ok (al, bl ++ [(1, al.length - al.length)]) (O ++ (bitsOf 1 1 ++ (bitsOf 1 2 ++ symB fixL 256))).length := by
  unfold strP
  rw [show readP FU (pk (O ++ endB)) 1048576 FU [] [] 0 = readP FU (pk (O ++ endB)) 1048576 (f + 1 + n) [] [] 0 by rw [<- hf], h1, readP_succ, e1]
  have t1' : takeP (pk (O ++ (bitsOf ((1 : Nat) : Int) 1 ++ (bitsOf 1 2 ++ symB fixL 256)))) 1 O.length = .ok 1 (O ++ bitsOf 1 1).length := t1
  have t2' : takeP (pk (O ++ (bitsOf ((1 : Nat) : Int) 1 ++ (bitsOf 1 2 ++ symB fixL 256)))) 2 (O ++ bitsOf 1 1).length = .ok 1 (O ++ (bitsOf 1 1 ++ bitsOf 1 2)).length := t2
  rw [t1']
  simp only
  rw [t2']
  simp only
  rw [<- e1, hb]
  simp only
  rw [if_neg (by decide)]
 rw [<- endB_bytes, <- h.bytes]
 unfold inflR
 rw [if_neg (by omega), if_neg (by rw [h.bytes, List.length_append, endB_bytes]; simp only [List.length_cons, List.length_nil]; omega), show (1048576 : Int).toNat = 1048576 from rfl, hst]
 exact ⟨rfl, rfl⟩
theorem Flown.closed {O : List Bool} {al b : List UInt8} {n lv : Nat} (h : Flown O al n) (hn : n <= 7000000) (ha : al.length + b.length <= 524288) (hl : lv <= 9) (hO : (pk O ++ deflB b lv).length <= 1048576) :
  (inflR (pk O ++ deflB b lv) 1048576).1 = al ++ b /\ (inflR (pk O ++ deflB b lv) 1048576).2.2.1 = (pk O ++ deflB b lv).length /\ (inflR (pk O ++ deflB b lv) 1048576).2.2.2 = 0 := by
 obtain ⟨hc, hfl⟩ := blocksD_chain b lv 1 (by omega) hl (by decide)
 have hbn := blocksD_len b lv 1 (by omega) hl
 obtain ⟨f, hf⟩ : ∃ f, FU = f + n := ⟨FU - n, by rw [FU_eq]; omega⟩
 have hfl2 : 1000000 <= f := by rw [FU_eq] at hf; omega
 have he := stream_shift O h.a8 (blocksD b lv 1) []
 rw [List.append_nil] at he
 obtain ⟨bl, h1⟩ := h.go (streamB [] (blocksD b lv 1)) f
 have hc2 := chain_shift ((1048576 : Nat) : Int) al (blocksD b lv 1) [] hc (by rw [hfl, List.length_nil]; omega)
 rw [List.append_nil] at hc2
 have h2 := read_back FU (blocksD b lv 1) O [] al bl f hc2 (blocksD_last b lv) (by omega) (by rw [hfl]; omega) (by rw [FU_eq]; decide)
 rw [List.append_nil, hfl] at h2
 have hbs : pk O ++ deflB b lv = pk (streamB O (blocksD b lv 1)) := by rw [he, h.bytes]; rfl
 have hst : strP (pk (streamB O (blocksD b lv 1))) 1048576 = .ok (al ++ b, bl ++ kindsB O (blocksD b lv 1)) (streamB O (blocksD b lv 1)).length := by
  unfold strP
  rw [show readP FU (pk (streamB O (blocksD b lv 1))) 1048576 FU [] [] 0 = readP FU (pk (streamB O (blocksD b lv 1))) 1048576 (f + n) [] [] 0 by rw [<- hf]]
  rw [<- he] at h1
  rw [h1, h2]
 have hpl := pk_len (streamB O (blocksD b lv 1))
 rw [hbs] at hO ⊢
 unfold inflR
 rw [if_neg (by omega), if_neg (by omega), show (1048576 : Int).toNat = 1048576 from rfl, hst]
 exact ⟨rfl, hpl.symm, rfl⟩
end Go.Proofs.YthmbbpfgbpacnaaGreatDoor.Def
namespace Go.Proofs.YthmbbpfgbpacnaaGreatDoor.Def
open Go.RowKit Go.Shelf Go.Lib Mem Bit Huf Lz Inf
structure FSt (W w : World) (s lv : Nat) (v va vo : Value) (wt : List UInt8) (wr : Nat) (al ou : List UInt8) (cl : Bool) : Prop where
 bel : Below W.heap.size W w
 sat : SAt w W.heap.size s v lv wt wr cl
 all : w.ownsRow W.heap.size 5 1 va al.length (bVs al)
 out : w.ownsRow W.heap.size 5 1 vo ou.length (bVs ou)
 sa : va.ownBlock ≠ some s
 so : vo.ownBlock ≠ some s
 av : ∀ g, va.ownBlock = some g -> v.ownBlock ≠ some g
 ov : ∀ g, vo.ownBlock = some g -> v.ownBlock ≠ some g
 ao : ∀ g, va.ownBlock = some g -> vo.ownBlock ≠ some g
section
variable {W w w' : World} {s lv wr wr' : Nat} {v v' va va' vo : Value} {wt wt' al al' ou : List UInt8} {cl cl' : Bool}
theorem FSt.swap (h : FSt W w s lv v va vo wt wr al ou cl) : FSt W w s lv v vo va wt wr ou al cl :=
 ⟨h.bel, h.sat, h.out, h.all, h.so, h.sa, h.ov, h.av, fun g h1 h2 => h.ao g h2 h1⟩
theorem FSt.below (h : FSt W w s lv v va vo wt wr al ou cl) (hb : Below w.heap.size w w') : FSt W w' s lv v va vo wt wr al ou cl :=
 ⟨h.bel.trans (hb.mono h.bel.size), h.sat.below hb, own_below h.all hb, own_below h.out hb, h.sa, h.so, h.av, h.ov, h.ao⟩
theorem FSt.wrote (h : FSt W w s lv v va vo wt wr al ou cl) (h1 : SAt w' W.heap.size s v' lv wt' wr' cl') (h2 : Below W.heap.size w w') (h3 : Only (fun j => j = s \/ v.ownBlock = some j) w w')
  (h4 : v'.ownBlock = v.ownBlock \/ ∀ k, v'.ownBlock = some k -> w.heap.size <= k) : FSt W w' s lv v' va vo wt' wr' al ou cl' :=
 ⟨h.bel.trans h2, h1, own_only h.all h3 (fun g hg q => q.elim (fun e => h.sa (by rw [hg, e])) (fun e => h.av g hg e)),
  own_only h.out h3 (fun g hg q => q.elim (fun e => h.so (by rw [hg, e])) (fun e => h.ov g hg e)), h.sa, h.so,
  fun g hg e => h4.elim (fun q => h.av g hg (q ▸ e)) (fun q => by have := q g e; have := (h.all.lt g hg).2; omega),
  fun g hg e => h4.elim (fun q => h.ov g hg (q ▸ e)) (fun q => by have := q g e; have := (h.out.lt g hg).2; omega), h.ao⟩
theorem FSt.told (h : FSt W w s lv v va vo wt wr al ou cl) (h1 : SAt w' W.heap.size s (.slice none 0 0) lv wt' wr' cl') (h3 : Only (fun j => j = s) w w') : FSt W w' s lv (.slice none 0 0) va vo wt' wr' al ou cl' :=
 h.wrote h1 (h3.below h.bel.size (by rintro i rfl; exact h.sat.2.2.2)) (h3.mono (fun i q => .inl (.inl q))) (.inr fun k e => by cases e)
theorem FSt.grown (h : FSt W w s lv v va vo wt wr al ou cl) (g1 : w.grownBy w' va.ownBlock) (o1 : w'.ownsRow W.heap.size 5 1 va' al'.length (bVs al')) (k1 : va'.ownBlock = va.ownBlock \/ ∀ k, va'.ownBlock = some k -> w.heap.size <= k) : FSt W w' s lv v va' vo wt wr al' ou cl :=
 ⟨h.bel.trans (bel_grown h.all g1 h.bel.size (Nat.le_refl _)),
  ⟨(g1.block s h.sat.lt (fun e => h.sa e.symm)).trans h.sat.1, own_same h.sat.2.1 (fun g hg => g1.block g (h.sat.2.1.lt g hg).2 (fun e => h.av g e.symm hg)), h.sat.2.2.1, h.sat.2.2.2⟩,
  o1, own_same h.out (fun g hg => g1.block g (h.out.lt g hg).2 (fun e => h.ao g e.symm hg)),
  k1.elim (fun q => by rw [q]; exact h.sa) (fun q e => by have := q s e; have := h.sat.lt; omega), h.so,
  fun g hg e => k1.elim (fun q => h.av g (q ▸ hg) e) (fun q => by have := q g hg; have := (h.sat.2.1.lt g e).2; omega), h.ov,
  fun g hg e => k1.elim (fun q => h.ao g (q ▸ hg) e) (fun q => by have := q g hg; have := (h.out.lt g e).2; omega)⟩
theorem FSt.appA (h : FSt W w s lv v va vo wt wr al ou cl) {ax : Option Addr} {c : Nat} {b : List UInt8} (hx : Mem.Src w (.slice ax b.length c) b) (hl : al.length + b.length <= 140737488355328) :
  ∃ a2 c2 w', (Builtin.append_ #[22, 22] 22 #[va, .slice ax b.length c]).run Tryz.prog w = .ok (.slice a2 (al.length + b.length) c2) w' /\ FSt W w' s lv v (.slice a2 (al.length + b.length) c2) vo wt wr (al ++ b) ou cl := by
 obtain ⟨v', w', r1, o1, g1, k1⟩ := app_any w W.heap.size va (.slice ax b.length c) 22 al b h.all h.bel.size hx hl
 have h2 := h.grown g1 o1 k1
 obtain ⟨a2, c2, rfl, -, -, -⟩ := own_shape o1
 rw [List.length_append] at r1 h2
 exact ⟨a2, c2, w', r1, h2⟩
theorem FSt.appO (h : FSt W w s lv v va vo wt wr al ou cl) {ax : Option Addr} {c : Nat} {b : List UInt8} (hx : Mem.Src w (.slice ax b.length c) b) (hl : ou.length + b.length <= 140737488355328) :
  ∃ a2 c2 w', (Builtin.append_ #[22, 22] 22 #[vo, .slice ax b.length c]).run Tryz.prog w = .ok (.slice a2 (ou.length + b.length) c2) w' /\ FSt W w' s lv v va (.slice a2 (ou.length + b.length) c2) wt wr al (ou ++ b) cl := by
 obtain ⟨a2, c2, w', h1, h2⟩ := h.swap.appA hx hl
 exact ⟨a2, c2, w', h1, h2.swap⟩
end
end Go.Proofs.YthmbbpfgbpacnaaGreatDoor.Def
namespace Go.Proofs.YthmbbpfgbpacnaaGreatDoor.Def
open Go.RowKit Go.Shelf Go.Lib Mem Bit Huf Lz Inf
structure Head (W w : World) (s lv : Nat) (v va vo : Value) (al ou : List UInt8) : Prop where
 st : FSt W w s lv v va vo [] al.length al ou false
 fl : ∃ O n, ou = pk O /\ Flown O al n /\ n <= 4 * al.length
 la : al.length <= 524288
 lo : ou.length <= 524288
theorem Head.below {W w w' : World} {s lv : Nat} {v va vo : Value} {al ou : List UInt8} (h : Head W w s lv v va vo al ou) (hb : Below w.heap.size w w') : Head W w' s lv v va vo al ou :=
 ⟨h.st.below hb, h.fl, h.la, h.lo⟩
theorem src_30 (W : World) : Mem.Src (W.alloc (.cells #[.int .u8 3, .int .u8 0] 5)) (.slice (some ⟨W.heap.size, 0, none⟩) 2 2) [3, 0] :=
 .inr ⟨_, 2, rfl, fun j v hj => by
  rw [Lib.addr_add, cell_of_row _ _ _ _ _ (0, 0) (heap_alloc_new _ _), Nat.zero_add, <- Array.getElem?_toList]
  exact hj⟩
theorem flushB_len (b : List UInt8) (lv : Nat) (hb : b.length <= 524288) (hl : lv <= 9) : (flushB b lv).length <= 1000000 := by
 have hbits := blocksD_bits b lv 0 [] hb hl (by decide)
 have hln := blk1_len (streamB [] (blocksD b lv 0)) noPB
 have hn0 : noPB.b.length = 0 := rfl
 rw [List.length_nil] at hbits
 unfold flushB
 rw [pk_len]
 omega
theorem flow_back (W w5 : World) (s lv : Nat) (v va : Value) (a4 : Option Addr) (c4 : Nat) (al ou : List UInt8) (hk : Masks W W.heap.size) (hod : Ords W W.heap.size)
  (h : Head W w5 s lv v va (.slice a4 ou.length c4) al ou) :
  ∃ a5 c5 w6, (Builtin.append_ #[22, 22] 22 #[.slice (some ⟨w5.heap.size, 0, none⟩) 0 0, .slice a4 ou.length c4]).run Tryz.prog (w5.alloc (.cells #[] 5)) = .ok (.slice a5 ou.length c5) w6 /\
   ∃ a6 c6 w7, (Builtin.append_ #[22, 22] 22 #[.slice a5 ou.length c5, .slice (some ⟨w6.heap.size, 0, none⟩) 2 2]).run Tryz.prog (w6.alloc (.cells #[.int .u8 3, .int .u8 0] 5)) = .ok (.slice a6 (ou.length + 2) c6) w7 /\
    Calls Tryz.prog 22 #[.slice a6 (ou.length + 2) c6, .int .i64 1048576] w7 fun e w8 => ∃ a7 c7, ∃ z : Int, e = .returned (.tuple #[.slice a7 al.length c7, .int .i64 z, .int .i64 0]) /\ Mem.Src w8 (.slice a7 al.length c7) al /\ Head W w8 s lv v va (.slice a4 ou.length c4) al ou := by
 obtain ⟨x, w6, r1, o1, b1⟩ := fresh_any w5 (.slice a4 ou.length c4) 22 ou (Src.of_own h.st.out rfl) (by have := h.lo; omega)
 have ba : Below w6.heap.size w6 (w6.alloc (.cells #[.int .u8 3, .int .u8 0] 5)) := (Below.refl _ _).alloc (Nat.le_refl _) _
 obtain ⟨y, w7, r2, o2, g2, -⟩ := app_any (w6.alloc (.cells #[.int .u8 3, .int .u8 0] 5)) w5.heap.size x (.slice (some ⟨w6.heap.size, 0, none⟩) 2 2) 22 ou [3, 0] (own_below o1 ba) (Nat.le_trans b1.size ba.size) (src_30 w6) (by have := h.lo; show ou.length + 2 <= _; omega)
 have b2 : Below w5.heap.size (w6.alloc (.cells #[.int .u8 3, .int .u8 0] 5)) w7 := bel_grown (own_below o1 ba) g2 (Nat.le_trans b1.size ba.size) (Nat.le_refl _)
 have b7 : Below w5.heap.size w5 w7 := (b1.trans (ba.mono b1.size)).trans b2
 have h7 := h.below b7
 obtain ⟨a5, c5, rfl, -, -, -⟩ := own_shape o1
 obtain ⟨a6, c6, rfl, -, -, -⟩ := own_shape o2
 have s7 := Src.of_own o2 rfl
 obtain ⟨O, n, e1, hf, hn⟩ := h.fl
 have hle := h.la
 have hlo := h.lo
 obtain ⟨k1, k2⟩ := hf.ended (by omega) (by rw [<- e1]; omega)
 rw [<- e1] at k1 k2
 have e2 : (ou ++ [3, 0]).length = ou.length + 2 := List.length_append
 rw [e2] at r2 s7
 refine ⟨a5, c5, w6, r1, a6, c6, w7, r2, ?_⟩
 refine (inflate_any w7 a6 (ou.length + 2) c6 W.heap.size 1048576 (ou ++ [3, 0]) s7 e2 (hk.below (h7.st.bel.mono (Nat.le_refl _))) (hod.below (h7.st.bel.mono (Nat.le_refl _))) h7.st.bel.size).mono ?_
 rintro e w8 ⟨z, h5, h6, h8⟩
 rw [k2] at h5
 rw [k1] at h6
 obtain ⟨a7, c7, rfl⟩ := src_len h6
 exact ⟨a7, c7, _, h5, h6, h7.below h8⟩
theorem flow_write (W w : World) (s lv : Nat) (v va vo : Value) (al ou : List UInt8) (h : Head W w s lv v va vo al ou) (hl : lv <= 9) (hk : Masks W W.heap.size) (ho : DOrd W W.heap.size)
  (ax : Option Addr) (c : Nat) (b : List UInt8) (hx : Mem.Src W (.slice ax b.length c) b) (x : Value) (hs : Mem.Src w x b) (hb : b.length <= 524288 - al.length) :
  Calls Tryz.prog 16 #[.pointer (some ⟨s, 0, none⟩), x] w fun e w2 => e = .returned (.int .i64 0) /\ Below W.heap.size W w2 /\
   ∃ a2 c2 w3, (Builtin.append_ #[22, 22] 22 #[va, .slice ax b.length c]).run Tryz.prog w2 = .ok (.slice a2 (al.length + b.length) c2) w3 /\
    Calls Tryz.prog 18 #[.pointer (some ⟨s, 0, none⟩)] w3 fun e w4 => ∃ a3 n3 c3, e = .returned (.tuple #[.slice a3 n3 c3, .int .i64 0]) /\
     ∃ a4 n4 c4 w5, (Builtin.append_ #[22, 22] 22 #[vo, .slice a3 n3 c3]).run Tryz.prog w4 = .ok (.slice a4 n4 c4) w5 /\ Below W.heap.size W w5 /\
      (n4 <= 524288 -> ∃ v2 ou2, ou2.length = n4 /\ Head W w5 s lv v2 (.slice a2 (al.length + b.length) c2) (.slice a4 n4 c4) (al ++ b) ou2) := by
 have hla := h.la
 have hlo := h.lo
 refine (swrite_ok w W.heap.size s v lv [] al.length x b h.st.sat hla (by simp) hs hb h.st.bel.size).mono ?_
 rintro e w2 ⟨rfl, v2, q1, q2, q3, q4⟩
 have h2 := h.st.wrote q1 q2 q3 q4
 rw [List.nil_append] at h2
 obtain ⟨a2, c2, w3, r3, h3⟩ := h2.appA (hx.below (h2.bel)) (by omega)
 refine ⟨rfl, h2.bel, a2, c2, w3, r3, ?_⟩
 obtain ⟨O, n, e1, hf, hn⟩ := h.fl
 by_cases h0 : b.length = 0
 ·obtain rfl : b = [] := List.eq_nil_of_length_eq_zero h0
  refine (sflush_none w3 W.heap.size s v2 lv _ h3.sat).mono ?_
  rintro e w4 ⟨rfl, rfl⟩
  obtain ⟨a4, c4, w5, r5, h5⟩ := h3.appO (ax := none) (c := 0) (b := []) (.inl ⟨rfl, rfl⟩) (by simp; omega)
  refine ⟨none, 0, 0, rfl, a4, _, c4, w5, r5, h5.bel, fun hle => ⟨v2, ou ++ [], by rw [List.length_append], ⟨?_, ⟨O, n, by rw [List.append_nil]; exact e1, by rw [List.append_nil]; exact hf, by rw [List.append_nil]; exact hn⟩, by rw [List.append_nil]; exact hla, by rw [List.append_nil]; exact hlo⟩⟩⟩
  rw [List.length_append]
  exact h5
 ·refine (sflush_ok w3 W.heap.size s v2 lv b _ h3.sat hl (by omega) (by omega) (hk.below h3.bel) (ho.below h3.bel) h3.bel.size).mono ?_
  rintro e w4 ⟨x4, rfl, o4, q5, q6⟩
  have h4 := h3.told q5 q6
  have hfl := flushB_len b lv (by omega) hl
  obtain ⟨a3, c3, rfl, -, -, -⟩ := own_shape o4
  obtain ⟨a4, c4, w5, r5, h5⟩ := h4.appO (Src.of_own o4 rfl) (by omega)
  have hfx := (flushX_ok b lv (by omega) hl).2.2.2
  refine ⟨a3, _, c3, rfl, a4, _, c4, w5, r5, h5.bel, fun hle => ⟨.slice none 0 0, ou ++ flushB b lv, by rw [List.length_append], ⟨?_, ⟨O ++ streamB [] (flushX b lv), n + (flushX b lv).length, ?_, hf.flush (by omega) hl, by rw [List.length_append]; omega⟩, by rw [List.length_append]; omega, by rw [List.length_append]; omega⟩⟩⟩
  ·rw [List.length_append]
   exact h5
  ·rw [hf.bytes, e1, flushX_bits]
   rfl
theorem flow_tail (W w : World) (s lv : Nat) (v va vo : Value) (al ou : List UInt8) (h : Head W w s lv v va vo al ou) (hl : lv <= 9) (hk : Masks W W.heap.size) (hod : Ords W W.heap.size) (ho : DOrd W W.heap.size) :
  Calls Tryz.prog 20 #[.pointer (some ⟨s, 0, none⟩)] w fun e w1 => ∃ a1 n1 c1, e = .returned (.tuple #[.slice a1 n1 c1, .int .i64 0]) /\
   ∃ a2 n2 c2 w2, (Builtin.append_ #[22, 22] 22 #[vo, .slice a1 n1 c1]).run Tryz.prog w1 = .ok (.slice a2 n2 c2) w2 /\ n2 <= 1048576 /\
    Calls Tryz.prog 22 #[.slice a2 n2 c2, .int .i64 1048576] w2 fun e w3 => ∃ a3 c3, e = .returned (.tuple #[.slice a3 al.length c3, .int .i64 (n2 : Int), .int .i64 0]) /\
     Calls Tryz.prog 20 #[.pointer (some ⟨s, 0, none⟩)] w3 fun e w4 => e = .returned (.tuple #[.slice none 0 0, .int .i64 64]) /\ Mem.Src w4 (.slice a3 al.length c3) al /\ Mem.Src w4 va al /\ Below W.heap.size W w4 := by
 have hla := h.la
 have hlo := h.lo
 obtain ⟨O, n, e1, hf, hn⟩ := h.fl
 refine (sclose_ok w W.heap.size s v lv [] al.length h.st.sat hl (by simp) (hk.below h.st.bel) (ho.below h.st.bel) h.st.bel.size).mono ?_
 rintro e w1 ⟨x1, rfl, o1, q1, q2⟩
 have h1 := h.st.told q1 q2
 have hsm := deflB_small [] lv (by simp) hl
 simp only [List.length_nil] at hsm
 obtain ⟨a1, c1, rfl, -, -, -⟩ := own_shape o1
 obtain ⟨a2, c2, w2, r2, h2⟩ := h1.appO (Src.of_own o1 rfl) (by omega)
 have hc := hf.closed (b := []) (lv := lv) (by omega) (by simp; omega) hl (by rw [<- e1, List.length_append]; omega)
 rw [<- e1, List.append_nil, List.length_append] at hc
 refine ⟨a1, _, c1, rfl, a2, _, c2, w2, r2, by omega, ?_⟩
 refine (inflate_any w2 a2 _ c2 W.heap.size 1048576 (ou ++ deflB [] lv) (by have hs := Src.of_own h2.out rfl; rw [<- List.length_append]; rw [<- List.length_append] at hs; exact hs) List.length_append (hk.below h2.bel) (hod.below h2.bel) h2.bel.size).mono ?_
 rintro e w3 ⟨z, h5, h6, h8⟩
 rw [hc.2.1, hc.2.2] at h5
 rw [hc.1] at h6
 obtain ⟨a3, c3, rfl⟩ := src_len h6
 have h3 := h2.below h8
 refine ⟨a3, c3, h5, (sclose_closed w3 W.heap.size s _ lv _ _ h3.sat).mono ?_⟩
 rintro e w4 ⟨rfl, rfl⟩
 exact ⟨rfl, h6, Src.of_own h3.all rfl, h3.bel⟩
end Go.Proofs.YthmbbpfgbpacnaaGreatDoor.Def
