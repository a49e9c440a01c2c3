/- The reference of layer 9: Take, Put. -/
import Derived.Test.YtfdpiinkjgepkaaBMem
namespace Go.Proofs.Ytfdpiinkjgepkaa.B
open Go Go.RowKit

/-- A slice of bytes in blocks not older than 'hi'. -/
def SlAt (hi : Nat) (w : World) (v : Value) (L : List UInt8) : Prop := (L = [] ∧ v = .slice none 0 0) ∨ ∃ b off cap, v = .slice (some ⟨b, off, none⟩) L.length cap ∧ L.length ≤ cap ∧ AtF hi w (some ⟨b, off, none⟩) (bytesV L)
section
variable {hi r p : Nat} {w w' : World} {v : Value} {L : List UInt8}
theorem SlAt.on (h : SlAt hi w v L) (hb : Below w.heap.size w w') : SlAt hi w' v L := by
  rcases h with h | ⟨b, off, cap, h1, h2, h3⟩
  · exact .inl h
  · exact .inr ⟨b, off, cap, h1, h2, h3.on hb⟩
theorem SlAt.two (h : SlAt hi w v L) (hb : Two r p w w') (hr : r < hi) (hp : p < hi) : SlAt hi w' v L := by
  rcases h with h | ⟨b, off, cap, h1, h2, h3⟩
  · exact .inl h
  · exact .inr ⟨b, off, cap, h1, h2, hb.at h3 hr hp⟩
theorem SlAt.of_own (h : OwnV hi 5 w v (bytesV L)) : SlAt hi w v L := by
  obtain ⟨q, cap, e, hat, hc⟩ := ownV_at h
  rcases h.2 with ⟨h0, h1⟩ | ⟨g, cap', cur, h0, _⟩
  · exact .inl ⟨by simpa using h1, h0⟩
  · rw [e] at h0
    cases h0
    exact .inr ⟨g, 0, cap, by rw [e]; simp, by simpa using hc, hat⟩
/-- What it is. -/
theorem SlAt.is (h : SlAt hi w v L) : ∃ q cap, v = .slice q L.length cap ∧ AtF hi w q (bytesV L) ∧ L.length ≤ cap := by
  rcases h with ⟨rfl, rfl⟩ | ⟨b, off, cap, h1, h2, h3⟩
  · exact ⟨none, 0, rfl, .nil _ _ _, Nat.le_refl _⟩
  · exact ⟨_, cap, h1, h3, h2⟩
end
theorem at_drop {hi b off k : Nat} {w : World} {L : List UInt8} (h : AtF hi w (some ⟨b, off, none⟩) (bytesV L)) : AtF hi w (some ⟨b, off + k, none⟩) (bytesV (L.drop k)) := by
  rcases h with h | ⟨b', off', e, h1, h2, h3⟩
  · obtain rfl : L = [] := by simpa using h
    exact .inl (by simp)
  · cases e
    refine .inr ⟨b, off + k, rfl, h1, h2, fun j v hj => ?_⟩
    rw [Nat.add_assoc]
    refine h3 (k + j) v ?_
    rw [← hj]
    simp [bytesV, List.getElem?_drop]

set_option maxRecDepth 100000 in
set_option maxHeartbeats 1000000 in
theorem rtake_any {hi : Nat} {v : Value} {L : List UInt8} {w : World} (h : SlAt hi w v L) (n : Int) (hL : L.length ≤ 1000000) :
    Calls Try.prog 8 #[v, .int .i64 n] w fun e w' => ∃ v1 v2, e = .returned (.tuple #[v1, v2]) ∧ SlAt hi w' v1 (L.take n.toNat) ∧ SlAt hi w' v2 (L.drop n.toNat) ∧ Below w.heap.size w w' := by
  generalize hPost : (fun (e : Ending) w' => ∃ v1 v2, e = .returned (.tuple #[v1, v2]) ∧ SlAt hi w' v1 (L.take n.toNat) ∧ SlAt hi w' v2 (L.drop n.toNat) ∧ Below w.heap.size w w') = Post
  have HP : Hid (∀ v1 v2 q, SlAt hi (w.drewN q) v1 (L.take n.toNat) → SlAt hi (w.drewN q) v2 (L.drop n.toNat) → Post (.returned (.tuple #[v1, v2])) (w.drewN q)) := fun v1 v2 q h1 h2 => by
    subst hPost
    exact ⟨v1, v2, rfl, h1, h2, on_drewN (Below.refl _ _) q⟩
  clear hPost
  rcases h with ⟨rfl, rfl⟩ | ⟨b, off, cap, rfl, hc, hat⟩
  · have HP2 : Hid (∀ q, Post (.returned (.tuple #[.slice none 0 0, .slice none 0 0])) (w.drewN q)) := fun q => HP.out _ _ q (.inl ⟨by simp, rfl⟩) (.inl ⟨by simp, rfl⟩)
    clear HP
    go_enter Try.func8, Try.ntmps8
    go_wp2
    go_loopw [6] (fun kv wr => kv = .int .i64 0 ∧ wr = w) (fun _ _ => 0)
    case atStart => exact ⟨rfl, rfl⟩
    case round =>
      obtain ⟨rfl, rfl⟩ := hrel
      go_wp2
      go_quiet (fail)
      go_wp2
      exact HP2.out _
  · have HA : Hid (AtF hi w (some ⟨b, off, none⟩) (bytesV L)) := hat
    clear hat
    go_enter Try.func8, Try.ntmps8
    go_wp2
    go_loopw [6] (fun kv wr => ∃ k : Nat, k ≤ L.length ∧ Hid (k ≤ n.toNat) ∧ kv = .int .i64 (k : Int) ∧ wr = w) (fun kv _ => L.length - (intOf kv).toNat)
    case atStart => exact ⟨0, Nat.zero_le _, Nat.zero_le _, rfl, rfl⟩
    case round =>
      obtain ⟨k, hk, hkn, rfl, rfl⟩ := hrel
      have fin : (L.length ≤ k ∨ n ≤ (k : Int)) → L.take n.toNat = L.take k ∧ L.drop n.toNat = L.drop k := fun h7 => by
        have := hkn.out
        rcases h7 with h7 | h7
        · rw [List.take_of_length_le (by omega), List.take_of_length_le (by omega), List.drop_of_length_le (by omega), List.drop_of_length_le (by omega)]
          exact ⟨rfl, rfl⟩
        · rw [show n.toNat = k by omega]
          exact ⟨rfl, rfl⟩
      have hs1 : ∀ W, AtF hi W (some ⟨b, off, none⟩) (bytesV L) → SlAt hi W (.slice (some ⟨b, off, none⟩) k cap) (L.take k) := fun W hat =>
        .inr ⟨b, off, cap, by rw [List.length_take, Nat.min_eq_left hk], by simp; omega, by have := hat.take k; simpa [bytesV] using this⟩
      have hs2 : ∀ W x, (cap = k ∨ x = off + k) → AtF hi W (some ⟨b, off, none⟩) (bytesV L) → SlAt hi W (.slice (some ⟨b, x, none⟩) (L.length - k) (cap - k)) (L.drop k) := fun W x hx hat => by
        refine .inr ⟨b, x, cap - k, by rw [List.length_drop], by simp; omega, ?_⟩
        rcases hx with hx | rfl
        · exact .inl (by simp; omega)
        · exact at_drop hat
      have HE : Hid ((L.length ≤ k ∨ n ≤ (k : Int)) → ∀ q x, (cap = k ∨ x = off + k) → Post (.returned (.tuple #[.slice (some ⟨b, off, none⟩) k cap, .slice (some ⟨b, x, none⟩) (L.length - k) (cap - k)])) (wr.drewN q)) := fun h7 q x hx => by
        obtain ⟨e1, e2⟩ := fin h7
        rw [e1, e2] at HP
        have ha := HA.out.on (on_drewN (Below.refl _ _) q)
        exact HP.out _ _ q (hs1 _ ha) (hs2 _ x hx ha)
      clear fin hs1 hs2 HP
      have hkc : (k : Int) ≤ (cap : Int) := by omega
      have hkc2 : k ≤ cap := by omega
      have hkL : (k : Int) ≤ (L.length : Int) := by omega
      by_cases hlt : k < L.length
      · have hltz : (k : Int) < (L.length : Int) := by omega
        by_cases hn : (k : Int) < n
        · go_wp2
          go_roundw
          case rel => exact ⟨k + 1, by omega, show k + 1 ≤ n.toNat by omega, by go_num, trivial⟩
          case measure => simp [intOf]; omega
        · have hck : ¬ cap = k := by omega
          have HE2 : Hid (∀ q, Post (.returned (.tuple #[.slice (some ⟨b, off, none⟩) k cap, .slice (some ⟨b, off + k, none⟩) (L.length - k) (cap - k)])) (wr.drewN q)) := fun q => HE.out (.inr (by omega)) q _ (.inr rfl)
          clear HE
          go_wp2
          go_quiet (fail)
          go_wp2
          exact HE2.out _
      · have hltz : ¬ (k : Int) < (L.length : Int) := by omega
        have HE2 : Hid (∀ q x, (cap = k ∨ x = off + k) → Post (.returned (.tuple #[.slice (some ⟨b, off, none⟩) k cap, .slice (some ⟨b, x, none⟩) (L.length - k) (cap - k)])) (wr.drewN q)) := HE.out (.inl (by omega))
        clear HE
        by_cases hck : cap = k
        · have HE3 : Hid (∀ q, Post (.returned (.tuple #[.slice (some ⟨b, off, none⟩) k k, .slice (some ⟨b, off, none⟩) (L.length - k) 0])) (wr.drewN q)) := fun q => by
            have := HE2.out q off (.inl hck)
            rwa [hck, Nat.sub_self] at this
          go_wp2
          go_quiet (fail)
          go_wp2
          exact HE3.out _
        · go_wp2
          go_quiet (fail)
          go_wp2
          exact HE2.out _ _ (.inr rfl)

theorem bytesV_snoc {B b : List UInt8} {k : Nat} (h : k < b.length) : bytesV (B ++ b.take (k + 1)) = bytesV (B ++ b.take k) ++ [.int .u8 ((b.getD k 0).toNat : Int)] := by
  rw [List.take_add_one, List.getElem?_eq_getElem h]
  simp only [bytesV, List.map_append, Option.toList_some, List.map_cons, List.map_nil, List.append_assoc, byteV, List.getD_eq_getElem?_getD, List.getElem?_eq_getElem h, Option.getD_some]

set_option maxRecDepth 100000 in
set_option maxHeartbeats 1000000 in
theorem rput_any {hi n c2 : Nat} {p2 : Option Addr} {v : Value} {B b : List UInt8} {w : World} (h : SlAt hi w v B) (hat2 : At w p2 (bytesV b)) (hn : B.length ≤ n) (hnn : n ≤ 1000000) (hb : b.length ≤ 1000000) :
    Calls Try.prog 12 #[.int .i64 (n : Int), v, .slice p2 b.length c2] w fun e w' => ∃ v', e = .returned v' ∧ OwnV w.heap.size 5 w' v' (bytesV (B ++ b.take (n - B.length))) ∧ Below w.heap.size w w' := by
  generalize hPost : (fun (e : Ending) w' => ∃ v', e = .returned v' ∧ OwnV w.heap.size 5 w' v' (bytesV (B ++ b.take (n - B.length))) ∧ Below w.heap.size w w') = Post
  have HP : Hid (∀ v' w', OwnV w.heap.size 5 w' v' (bytesV (B ++ b.take (n - B.length))) → Below w.heap.size w w' → Post (.returned v') w') := fun v' w' h1 h2 => by
    subst hPost
    exact ⟨v', rfl, h1, h2⟩
  clear hPost
  obtain ⟨p, c, rfl, hat, hc⟩ := h.is
  obtain ⟨v1, w1, hrun, hb1, ho1⟩ := append_copy elemByte w.heap.size w.heap.size p c (bytesV B) (w.alloc (.cells #[] 5)) (by simp; omega) (one_bytes _) (ownV_empty w w.heap.size _ (Nat.le_refl _)) (by simp) (hat.alloc _).at
  have HI0 : Hid (OwnV w.heap.size 5 w1 v1 (bytesV (B ++ b.take 0)) ∧ Below w.heap.size w w1) := ⟨by simpa using ho1, on_trans (on_alloc _ _) hb1⟩
  have HA : Hid (At w p2 (bytesV b)) := hat2
  simp only [bytesV, List.length_map] at hrun
  clear h hat hat2 hb1 ho1
  generalize hbl : b.length = bl at *
  have HBL : Hid (b.length = bl) := hbl
  generalize hBl : B.length = Bl at *
  have HBl : Hid (B.length = Bl) := hBl
  clear hbl hBl
  go_enter Try.func12, Try.ntmps12
  go_wp2_with (at_builtin; refine wpList_run_append (by rfl) _ _ _ (by rfl) _ _ (by rfl) (by rfl) hrun ?_)
  go_loopw [7, 8] (fun ov iv wr => ∃ i : Nat, i ≤ bl ∧ i ≤ n - Bl ∧ iv = .int .i64 (i : Int) ∧ Hid (OwnV w.heap.size 5 wr ov (bytesV (B ++ b.take i)) ∧ Below w.heap.size w wr)) (fun _ iv _ => bl - (intOf iv).toNat)
  case atStart => exact ⟨0, Nat.zero_le _, Nat.zero_le _, rfl, HI0⟩
  case round =>
    clear HI0
    obtain ⟨i, hib, hin, rfl, HI⟩ := hrel
    obtain ⟨q, cap, hq, hqa, hqc⟩ := ownV_at HI.out.1
    have hql : (bytesV (B ++ b.take i)).length = Bl + i := by have := HBL.out; have := HBl.out; simp; omega
    rw [hql] at hq
    subst hq
    by_cases hlt : i < bl
    · have hltz : (i : Int) < (bl : Int) := by omega
      by_cases hn2 : Bl + i < n
      · have hn2z : ((Bl + i : Nat) : Int) < (n : Int) := by omega
        have hn2y : (Bl : Int) + (i : Int) < (n : Int) := by omega
        obtain ⟨sb, so, hpe, _, hsb, hcc⟩ := (HA.out.on HI.out.2).place (k := i) (by have := HBL.out; simp; omega)
        subst hpe
        have hck := hcc i _ (bytesV_get (by have := HBL.out; omega))
        obtain ⟨v', W', hrun2, hO2, hB2⟩ := append_one elemByte w.heap.size _ (bytesV (B ++ b.take i)) (.int .u8 ((b.getD i 0).toNat : Int)) wr (by rw [hql]; omega) rfl HI.out.1 HI.out.2.size
        have HI2 : Hid (OwnV w.heap.size 5 W' v' (bytesV (B ++ b.take (i + 1))) ∧ Below w.heap.size w W') := by
          refine ⟨?_, HI.out.2.trans hB2⟩
          rw [bytesV_snoc (by have := HBL.out; omega)]
          exact hO2
        clear hcc hO2 hB2 HI hqa
        have hx := (b.getD i 0).toNat_lt
        generalize (b.getD i 0).toNat = x at *
        go_wp2_with (at_builtin; refine wpList_run_append (by rfl) _ _ _ (by rfl) _ _ (by rfl) (by rfl) hrun2 ?_)
        go_roundw
        case rel => exact ⟨i + 1, by omega, by omega, by go_num, HI2⟩
        case measure => simp [intOf]; omega
      · have hn2z : ¬ ((Bl + i : Nat) : Int) < (n : Int) := by omega
        have hn2y : ¬ (Bl : Int) + (i : Int) < (n : Int) := by omega
        have HE : Hid (Post (.returned (.slice q (Bl + i) cap)) wr) := by
          refine HP.out _ _ ?_ HI.out.2
          rw [show n - Bl = i by omega]
          exact HI.out.1
        clear HP HI hqa
        go_wp2
        exact HE.out
    · have hltz : ¬ (i : Int) < (bl : Int) := by omega
      have HE : Hid (Post (.returned (.slice q (Bl + i) cap)) wr) := by
        refine HP.out _ _ ?_ HI.out.2
        have := HBL.out
        rw [List.take_of_length_le (show b.length ≤ n - Bl by omega)]
        have h7 := HI.out.1
        rw [List.take_of_length_le (show b.length ≤ i by omega)] at h7
        exact h7
      clear HP HI hqa
      go_wp2
      exact HE.out

end Go.Proofs.Ytfdpiinkjgepkaa.B
