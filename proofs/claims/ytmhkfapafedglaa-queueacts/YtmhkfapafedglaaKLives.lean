/- A queue beside what a law does; bytes as a text; the law's lives. -/
import Derived.Test.YtmhkfapafedglaaKDump
import Derived.Laws.IdiomStrings
import Derived.Laws.BytesArg
import Derived.Lib.SlBytesConst
namespace Go.Proofs.Ytmhkfapafedglaa.K
open Go Go.RowKit

/-- A queue that is younger than a world. -/
structure QS (w : World) (F G : Nat → Prop) (W : World) (qb n : Nat) (ps : List Pt) : Prop where
  q : QAt F G W qb n ps
  lo : ∀ k, F k ∨ G k → w.heap.size ≤ k
  below : Below w.heap.size w W
section
variable {w W W' : World} {F G F' G' : Nat → Prop} {qb n : Nat} {ps ps' : List Pt}
theorem QS.on (h : QS w F G W qb n ps) (hb : Below W.heap.size W W') : QS w F G W' qb n ps := ⟨h.q.on hb, h.lo, on_trans h.below hb⟩
theorem QS.goes (h : QS w F G W qb n ps) (hq : QAt F' G' W' qb n ps') (hg : Goes F G F' G' W W') : QS w F' G' W' qb n ps' :=
  ⟨hq, fun k hk => by
    have hs := h.below.size
    rcases hk with hk | hk
    · rcases hg.sub k hk with h7 | h7
      · exact h.lo k (.inl h7)
      · omega
    · rcases hg.subG k hk with h7 | h7
      · exact h.lo k (.inr h7)
      · omega, hg.below h.below (fun k hk => h.lo k (.inl hk)) h.below.size⟩
theorem QS.new {e : Ending} (h : NewPost n w e W) : ∃ qb F G, e = .returned (.pointer (some ⟨qb, 0, none⟩)) ∧ QS w F G W qb n [] := by
  obtain ⟨qb, F, G, h1, h2, h3, h4⟩ := h
  exact ⟨qb, F, G, h1, h2, h4, h3⟩
end
/-- A slice of bytes as a text. -/
theorem text_of {w : World} {p : Option Addr} {c : Nat} {l : List UInt8} (h : At w p (bytesV l)) : (convert 29 9 (.slice p l.length c)).run Try.prog w = .ok (.string ⟨l.toArray⟩) w := by
  cases p with
  | none =>
    obtain rfl : l = [] := by
      rcases h with e | ⟨b, off, e, _⟩
      · simpa using e
      · cases e
    exact run_convert_bytes_nil w 29 5 Try.underlying29 Try.underlying5 _ _ _ Try.underlying9
  | some a =>
    refine run_convert_bytes_back w 29 9 5 a c l Try.underlying29 Try.underlying5 Try.underlying9 fun j hj => ?_
    refine at_news h j _ ?_
    rw [bytesV_get hj]
    simp [List.getD, hj]
/-- Bytes of a block of one's own. -/
theorem byt_new {O : Nat → Prop} (w : World) (l : List UInt8) (fr : Nat × Nat) (c : Nat) (hc : l.length ≤ c) (hO : O w.heap.size) : BytO O (w.alloc (.cells (bytesV l).toArray 5 fr)) (.slice (some ⟨w.heap.size, 0, none⟩) l.length c) l :=
  ⟨_, c, rfl, hc, .inr ⟨w.heap.size, 0, rfl, hO, by simp, ⟨_, _, World.alloc_heap_new w _⟩, fun j v hj => by
    rw [cell_of_row _ _ _ _ _ _ (World.alloc_heap_new w _), Nat.zero_add]
    simpa using hj⟩⟩

set_option maxRecDepth 100000 in
set_option maxHeartbeats 1000000 in
theorem lives_any (w : World) : Calls Try.prog 14 #[] w fun e w' => e = .returned (.bool true) ∧ Below w.heap.size w w' := by
  have hnew := new_in 9 w (by omega) (by omega)
  have hcv := fun (w : World) (C : Array Value) (n c : Nat) => Lib.run_convert_bytes_const (P := Try.prog) w 29 5 C n c Try.underlying29 Try.underlying5
  obtain ⟨Post, hPost⟩ : ∃ Post : Ending → World → Prop, (fun e w' => e = .returned (.bool true) ∧ Below w.heap.size w w') = Post := ⟨_, rfl⟩
  have HP : Hid (∀ W, Below w.heap.size w W → Post (.returned (.bool true)) W) := fun W hb => by subst hPost; exact ⟨rfl, hb⟩
  rw [hPost]
  clear hPost
  go_enter Try.func14, Try.ntmps14
  go_wp2_with fail
  refine hnew.mono ?_
  intro e w1 hn
  obtain ⟨qb, F, G, rfl, h1⟩ := QS.new hn
  have H1 : Hid (QS w F G w1 qb 9 []) := h1
  clear hnew hn h1
  go_wp2_with fail
  have a1 := on_alloc w1 (.cells #[.int .u8 97, .int .u8 98] 5 (2, 3))
  have a2 := on_alloc (w1.alloc (.cells #[.int .u8 97, .int .u8 98] 5 (2, 3))) (.cells #[.int .i64 7, .int .u32 0, .bool false, .slice none 0 0, .int .i64 0] 64)
  have q2 := (H1.out.on a1).on a2
  have l2 := H1.out.q.lt
  have cP := put_any q2.q (.slice (some ⟨w1.heap.size, 0, none⟩) 2 2) (.slice (some ⟨w1.heap.size + 1, 0, none⟩) 1 1) [97, 98] [⟨7, 0, false, [], 0⟩] ((byt_new w1 [97, 98] (2, 3) 2 (by simp) (fun h7 => by have := l2 _ h7; omega)).keep (keep_on a2)) (by
    refine ⟨[(⟨7, 0, false, [], 0⟩, .slice none 0 0)], rfl, ⟨_, 1, rfl, Nat.le_refl _, .inr ⟨w1.heap.size + 1, 0, rfl, fun h7 => (by have := l2 _ h7; omega), by simp, ⟨#[.int .i64 7, .int .u32 0, .bool false, .slice none 0 0, .int .i64 0], (0, 0), ?_⟩, fun j v hj => ?_⟩⟩, fun x hx => ?_⟩
    · have := World.alloc_heap_new (w1.alloc (.cells #[.int .u8 97, .int .u8 98] 5 (2, 3))) (.cells #[.int .i64 7, .int .u32 0, .bool false, .slice none 0 0, .int .i64 0] 64)
      rw [World.size_alloc] at this
      exact this
    · have := Blk.new (w1.alloc (.cells #[.int .u8 97, .int .u8 98] 5 (2, 3))) 64 [.int .i64 7, .int .u32 0, .bool false, .slice none 0 0, .int .i64 0]
      rw [World.size_alloc] at this
      rw [Nat.zero_add]
      exact this.cell j hj
    · simp at hx
      subst hx
      exact ⟨none, 0, rfl, Nat.le_refl _, .inl rfl⟩) (by simp) (by simp)
  have e1 : putF 9 [] [97, 98] [⟨7, 0, false, [], 0⟩] = ([([97, 98], [⟨7, 0, false, [], 0⟩])], 2, 0) := by simp [putF, total]
  unfold PutPost at cP
  rw [e1] at cP
  have H2 : Hid _ := q2
  clear e1 q2 a1 a2 l2 H1
  refine cP.mono ?_
  rintro e w2 ⟨F1, G1, rfl, q1, g1⟩
  have H3 : Hid (QS w F1 G1 w2 qb 9 [([97, 98], [⟨7, 0, false, [], 0⟩])]) := H2.out.goes q1 g1
  clear cP q1 g1 H2
  go_wp2_with fail
  have a1 := on_alloc w2 (.cells #[.int .u8 99, .int .u8 100] 5 (2, 3))
  have l2 := H3.out.q.lt
  have q2 := H3.out.on a1
  have cP := put_any q2.q (.slice (some ⟨w2.heap.size, 0, none⟩) 2 2) (.slice none 0 0) [99, 100] [] (byt_new w2 [99, 100] (2, 3) 2 (by simp) (fun h7 => by have := l2 _ h7; omega)) (PasO.nil _ _) (by simp) (by simp)
  have e1 : putF 9 [([97, 98], [(⟨7, 0, false, [], 0⟩ : Ps)])] [99, 100] [] = ([([97, 98, 99, 100], [⟨7, 0, false, [], 0⟩])], 2, 0) := by simp [putF, total, addLast]
  unfold PutPost at cP
  rw [e1] at cP
  have H2 : Hid _ := q2
  clear e1 q2 a1 l2 H3
  refine cP.mono ?_
  rintro e w3 ⟨F2, G2, rfl, q1, g1⟩
  have H4 : Hid (QS w F2 G2 w3 qb 9 [([97, 98, 99, 100], [⟨7, 0, false, [], 0⟩])]) := H2.out.goes q1 g1
  clear cP q1 g1 H2
  have cT := take_any H4.out.q 3 1 (by omega)
  have e2 : takeF [([97, 98, 99, 100], [(⟨7, 0, false, [], 0⟩ : Ps)])] 3 1 = ([([100], [])], [97, 98, 99], [⟨7, 0, false, [], 0⟩], []) := by simp [takeF]
  unfold TakePost at cT
  rw [e2] at cT
  clear e2
  go_wp2_with fail
  refine cT.mono ?_
  rintro e w4 ⟨F3, v1, v2, v3, rfl, q1, g1, hb, hp2, hp3⟩
  have H5 : Hid (QS w F3 G2 w4 qb 9 [([100], [])]) := H4.out.goes q1 g1
  clear cT H4 q1 g1
  obtain ⟨p1, c1, rfl, _, a1⟩ := hb
  obtain ⟨M2, em2, hm2⟩ := hp2
  obtain ⟨M3, em3, hm3⟩ := hp3
  obtain ⟨p2, c2, rfl, _, a2⟩ := hm2.row
  obtain ⟨p3, c3, rfl, _, a3⟩ := hm3.row
  have l2 : M2.length = 1 := by have := congrArg List.length em2; simpa using this
  have l3 : M3.length = 0 := by have := congrArg List.length em3; simpa using this
  obtain ⟨x2, rfl⟩ : ∃ x, M2 = [x] := List.length_eq_one_iff.1 l2
  obtain ⟨b2, o2, rfl, _, _, ht2⟩ := a2.at.place (k := 0) (by simp [flatP, psC])
  have hx2 : x2.1.file = 7 := by simp at em2; rw [em2]
  have hc0 := ht2 0 (.int .i64 7) (by simp [flatP, psC, hx2])
  rw [Nat.add_zero] at hc0
  have htx : (convert 29 9 (.slice p1 3 c1)).run Try.prog w4 = .ok (.string ⟨#[97, 98, 99]⟩) w4 := text_of (l := [97, 98, 99]) (c := c1) a1.at
  have hl1 : ([97, 98, 99] : List UInt8).length = 3 := rfl
  have cL := len_any H5.out.q
  have e3 : total [(([100] : List UInt8), ([] : List Ps))] = 1 := rfl
  rw [e3] at cL
  rw [l3, hl1]
  have l2' : [x2].length = 1 := rfl
  rw [l2']
  clear em2 em3 hm2 hm3 a1 a2 a3 ht2 hx2 e3 l2 l2' hl1
  go_wp2_with fail
  refine cL.mono ?_
  rintro e w5 ⟨rfl, hb5⟩
  have HE := HP.out w5 (on_trans H5.out.below hb5)
  clear cL
  go_wp2
  exact HE

end Go.Proofs.Ytmhkfapafedglaa.K
