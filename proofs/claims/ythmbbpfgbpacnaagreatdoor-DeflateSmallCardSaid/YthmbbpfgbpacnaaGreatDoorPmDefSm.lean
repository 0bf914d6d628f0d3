/- Package deflate: how much longer what is compressed may be (no program). -/
import Derived.Test.YthmbbpfgbpacnaaGreatDoorPmDefZj
namespace Go.Proofs.YthmbbpfgbpacnaaGreatDoor.Def
open Go.RowKit Go.Shelf Go.Lib Mem Bit Huf Lz Inf
theorem blocksF_count {lv ways last : Nat} {M : Int} : ∀ (f : Nat) (ps : List Pc) (b out : List UInt8), ps.length < f -> expR ps M out = (out ++ b, 0) -> (lv = 0 -> ∀ p ∈ ps, p.len = 0) -> 1 <= (blocksF lv ways last f ps b).length /\ ((blocksF lv ways last f ps b).length - 1) * 8192 <= b.length
 | 0, _, _, _, h, _, _ => by omega
 | f + 1, ps, b, out, h, he, h0 => by
  obtain ⟨q1, q2, q3, q4, q5, q6, q7, q8, q9⟩ := fill_block he h0
  rw [blocksF_succ]
  split
  ·rename_i hc
   have h1 : 1 <= (fillF lv ps 0 0).1 := by
    cases ps with
    | nil => simp at hc
    | cons p ps => exact fillF_pos lv p ps
   have ih := blocksF_count (lv := lv) (ways := ways) (last := last) f (ps.drop (fillF lv ps 0 0).1) (b.drop (fillF lv ps 0 0).2) (out ++ b.take (fillF lv ps 0 0).2) (by rw [List.length_drop]; omega) q8 (fun e p hp => h0 e p (List.mem_of_mem_drop hp))
   have h9 := q9 hc
   rw [List.length_drop] at ih
   rw [List.length_cons]
   omega
  ·rw [List.length_singleton]; omega
theorem streamB_len : ∀ (xs : List PB) (L : List Bool), (streamB L xs).length <= L.length + 42 * xs.length + 8 * (xs.map PB.b).flatten.length
 | [], L => by show L.length <= _; omega
 | x :: xs, L => by
  have ih := streamB_len xs (blk1 L x)
  have := blk1_len L x
  show (streamB (blk1 L x) xs).length <= _
  rw [List.length_cons, List.map_cons, List.flatten_cons, List.length_append]
  omega
theorem deflB_small (b : List UInt8) (lv : Nat) (hb : b.length <= 524288) (hl : lv <= 9) : (deflB b lv).length <= b.length + 5 * (b.length / 22000 + 1) + 6 + b.length / 1000 := by
 obtain ⟨hc, hfl⟩ := blocksD_chain b lv 1 (by omega) hl (by decide)
 have h1 := streamB_len (blocksD b lv 1) []
 rw [hfl, List.length_nil] at h1
 have h2 : 1 <= (blocksD b lv 1).length /\ ((blocksD b lv 1).length - 1) * 8192 <= b.length := by
  unfold blocksD
  exact blocksF_count (M := ((1048576 : Nat) : Int)) _ _ b [] (by omega) (by rw [List.nil_append]; exact piecesD_exp b lv (by omega) hl) (fun e => by rw [e]; exact piecesD_lit b)
 unfold deflB
 rw [pk_len]
 omega
def numS (n : Nat) : Nat := max 1 ((n + 29999) / 30000)
theorem blocksF_stored : ∀ (f : Nat) (ps : List Pc) (b out : List UInt8) (M : Int) (last : Nat), ps.length < f -> expR ps M out = (out ++ b, 0) -> (∀ p ∈ ps, p.len = 0) -> ps.length = b.length -> (blocksF 0 1 last f ps b).length = numS b.length /\ ∀ x ∈ blocksF 0 1 last f ps b, x.ways = 1
 | 0, _, _, _, _, _, h, _, _, _ => by omega
 | f + 1, ps, b, out, M, last, h, he, h0, hn => by
  obtain ⟨q1, q2, q3, q4, q5, q6, q7, q8, q9⟩ := fill_block (lv := 0) he (fun _ => h0)
  obtain ⟨s1, s2, s3, s4⟩ := fillF_spec 0 ps 0 0
  obtain ⟨t1, t2⟩ := fillF_bd0 ps 0 0 h0 rfl (by decide)
  have hful : fulB 0 (fillF 0 ps 0 0).1 (fillF 0 ps 0 0).2 = true -> (fillF 0 ps 0 0).2 = 30000 := fun q => by
   unfold fulB at q
   rw [if_pos rfl] at q
   exact of_decide_eq_true q
  rw [blocksF_succ]
  unfold numS
  split
  ·rename_i hc
   have e2 : (fillF 0 ps 0 0).2 = 30000 := hful (s4.resolve_left (by omega))
   obtain ⟨i1, i2⟩ := blocksF_stored f (ps.drop (fillF 0 ps 0 0).1) (b.drop (fillF 0 ps 0 0).2) (out ++ b.take (fillF 0 ps 0 0).2) M last (by rw [List.length_drop]; omega) q8 (fun p hp => h0 p (List.mem_of_mem_drop hp)) (by rw [List.length_drop, List.length_drop]; omega)
   unfold numS at i1
   rw [List.length_drop] at i1
   refine ⟨?_, fun x hx => ?_⟩
   ·rw [List.length_cons, i1]; omega
   ·rcases List.mem_cons.1 hx with rfl | hx
    ·rfl
    ·exact i2 x hx
  ·rename_i hc
   refine ⟨?_, fun x hx => by rw [List.mem_singleton.1 hx]⟩
   rw [List.length_singleton]
   omega
theorem way_one {x : PB} (h : x.ways = 1) (n : Nat) : x.way n = 0 := by
 unfold PB.way
 rw [h]
 rfl
theorem blk1_one {x : PB} (h : x.ways = 1) (L : List Bool) (hL : L.length % 8 = 0) : (blk1 L x).length = L.length + 40 + 8 * x.b.length := by
 unfold blk1
 rw [List.length_append, opsB_len, way_one h, tellO_w]
 show L.length + (3 + opsW (storO L.length x.b)) = _
 rw [storO_w]
 unfold padN
 omega
theorem streamB_one : ∀ (xs : List PB) (L : List Bool), (∀ x ∈ xs, x.ways = 1) -> L.length % 8 = 0 -> (streamB L xs).length = L.length + 40 * xs.length + 8 * (xs.map PB.b).flatten.length
 | [], L, _, _ => rfl
 | x :: xs, L, h, hL => by
  have h1 := blk1_one (h x List.mem_cons_self) L hL
  have ih := streamB_one xs (blk1 L x) (fun y hy => h y (List.mem_cons_of_mem _ hy)) (by omega)
  show (streamB (blk1 L x) xs).length = _
  rw [ih, List.length_cons, List.map_cons, List.flatten_cons, List.length_append]
  omega
theorem kinds_one : ∀ (xs : List PB) (L : List Bool), (∀ x ∈ xs, x.ways = 1) -> (kindsB L xs).length = xs.length /\ ∀ k ∈ kindsB L xs, k.1 = 0
 | [], _, _ => ⟨rfl, fun k hk => by cases hk⟩
 | x :: xs, L, h => by
  obtain ⟨i1, i2⟩ := kinds_one xs (blk1 L x) (fun y hy => h y (List.mem_cons_of_mem _ hy))
  refine ⟨?_, fun k hk => ?_⟩
  ·show (kindsB (blk1 L x) xs).length + 1 = xs.length + 1
   rw [i1]
  ·rcases List.mem_cons.1 hk with rfl | hk
   ·exact way_one (h x List.mem_cons_self) _
   ·exact i2 k hk
theorem deflB_stored (b : List UInt8) (hb : b.length <= 524288) : (deflB b 0).length = b.length + 5 * numS b.length /\ (kindsB [] (blocksD b 0 1)).length = numS b.length /\ ∀ k ∈ kindsB [] (blocksD b 0 1), k.1 = 0 := by
 have hp : (piecesD b 0).length = b.length := by unfold piecesD; rw [if_pos rfl, List.length_map]
 have h1 : (blocksD b 0 1).length = numS b.length /\ ∀ x ∈ blocksD b 0 1, x.ways = 1 := by
  unfold blocksD
  rw [if_pos rfl]
  exact blocksF_stored _ _ b [] ((1048576 : Nat) : Int) 1 (by omega) (by rw [List.nil_append]; exact piecesD_exp b 0 (by omega) (by decide)) (piecesD_lit b) hp
 obtain ⟨hc, hfl⟩ := blocksD_chain b 0 1 (by omega) (by decide) (by decide)
 have h2 := streamB_one (blocksD b 0 1) [] h1.2 rfl
 rw [hfl, h1.1, List.length_nil] at h2
 obtain ⟨h3, h4⟩ := kinds_one (blocksD b 0 1) [] h1.2
 refine ⟨?_, by rw [h3, h1.1], h4⟩
 unfold deflB
 rw [pk_len]
 omega
end Go.Proofs.YthmbbpfgbpacnaaGreatDoor.Def
