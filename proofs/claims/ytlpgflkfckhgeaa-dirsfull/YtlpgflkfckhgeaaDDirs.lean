/- What the calls of dirs answer and do, of a directory that is there. -/
import Derived.Test.YtlpgflkfckhgeaaDDel
import Derived.Test.YtlpgflkfckhgeaaDFind
namespace Go.Proofs.Ytlpgflkfckhgeaa
open Go Go.RowKit

section
variable {hi B : Nat} {w w' w1 : World} {e : TypeId}
theorem Turn.of_but {b : Nat} {cs : List Value} (hb : Blk w b 54 cs) (h : But b w w') (hB : hi ≤ b) : Turn hi w w' :=
  ⟨h.os, h.tape, h.output, Nat.le_of_eq h.size.symm, fun k hk hc => h.block k fun e => by
    subst e
    rcases hc with hc | hc
    · omega
    · exact (hc _ _).1 hb.row⟩
theorem Turn.of_row {b : Nat} {cs : List Value} (hb : Blk w b 61 cs) (h : But b w w') (hB : hi ≤ b) : Turn hi w w' :=
  ⟨h.os, h.tape, h.output, Nat.le_of_eq h.size.symm, fun k hk hc => h.block k fun e => by
    subst e
    rcases hc with hc | hc
    · omega
    · exact (hc _ _).2 hb.row⟩
theorem Turn.of_grow (h : RowGrow hi 61 w w') : Turn hi w w' := by
  obtain ⟨r, h1, h2⟩ := h.block
  refine ⟨h.os, h.tape, h.output, h.size, fun k hk hc => h2 k hk fun e => ?_⟩
  obtain ⟨hg, cs, fr, hr⟩ := h1 k e
  rcases hc with hc | hc
  · omega
  · exact (hc cs fr).2 hr
/-- A row of another type stays. -/
theorem Turn.row {hi' : Nat} {t : TypeId} {size n : Nat} {v : Value} {s : List Value} (h : Turn hi w w') (hr : w.ownsRow hi' t size v n s) (ht : t ≠ 54 ∧ t ≠ 61) : w'.ownsRow hi' t size v n s := by
  refine ⟨hr.1, ?_⟩
  rcases hr.2 with h0 | ⟨g, cap, cur, rfl, hbs, hg, h3⟩
  · exact .inl h0
  · refine .inr ⟨g, cap, cur, rfl, hbs, (h.block g (Array.getElem?_eq_some_iff.1 hg).1 (.inr fun cs fr => ?_)).trans hg, h3⟩
    rw [hg]
    simp only [ne_eq, Option.some.injEq, Obj.cells.injEq, not_and]
    exact ⟨fun _ e _ => ht.1 e, fun _ e _ => ht.2 e⟩
/-- A block of another type stays. -/
theorem Turn.blk {t : TypeId} {b : Nat} {cs : List Value} (h : Turn hi w w') (hb : Blk w b t cs) (ht : t ≠ 54 ∧ t ≠ 61) : Blk w' b t cs := by
  refine ⟨(h.block b hb.lt (.inr fun cs fr => ?_)).trans hb.row⟩
  rw [hb.row]
  simp only [ne_eq, Option.some.injEq, Obj.cells.injEq, not_and]
  exact ⟨fun _ e _ => ht.1 e, fun _ e _ => ht.2 e⟩
end

set_option maxRecDepth 100000 in
theorem new_any (w : World) : Calls Try.prog 7 #[] w fun e w' => e = .returned (.pointer (some ⟨w.heap.size, 0, none⟩)) ∧ w' = w.alloc (.cells #[.slice none 0 0] 54) := by
  go_enter Try.func7, Try.ntmps7
  go_wp2
  go_ret
  exact ⟨rfl, rfl⟩
theorem new_dir (w : World) (hi : Nat) (h : hi ≤ w.heap.size) : DirAt hi (w.alloc (.cells #[.slice none 0 0] 54)) w.heap.size (.slice none 0 0) [] :=
  ⟨Blk.new w _ [.slice none 0 0], World.ownsRow_nil _ _ _ _, h⟩

/-- An entry's place, where there is one. -/
theorem ent_cell {hi d : Nat} {v : Value} {S : List Ent} {w : World} (h : DirAt hi w d v S) {k : Nat} (hk : k < S.length) : ∃ g cap, v = .slice (some ⟨g, 0, none⟩) S.length cap ∧ hi ≤ g ∧ w.cell? ⟨g, k * 2, none⟩ = some (.string S[k].1) ∧ w.cell? ⟨g, k * 2 + 1, none⟩ = some (.int .i64 S[k].2) := by
  obtain ⟨p, cap, rfl, hat, _⟩ := rowS_at h.row
  obtain ⟨g, rfl⟩ : ∃ g, p = some ⟨g, 0, none⟩ := by
    rcases h.row.2 with ⟨_, h1⟩ | ⟨g, c, cur, h0, _⟩
    · omega
    · cases h0; exact ⟨g, rfl⟩
  obtain ⟨g', off, e, hg, hlt, hc⟩ := hat.place (k := k * 2) (by rw [flat_length]; omega)
  cases e
  have x0 := hc (k * 2) _ (flat_name S k hk)
  have x1 := hc (k * 2 + 1) _ (flat_ino S k hk)
  rw [Nat.zero_add] at x0 x1
  exact ⟨g, cap, rfl, hg, x0, x1⟩
/-- The number of a name that there is lies at its place. -/
theorem find_at {nm : ByteArray} : ∀ {S : List Ent}, Sorted S → (h : under nm S < S.length) → same nm S[under nm S] = true → find nm S = S[under nm S].2
  | [], _, h, _ => absurd h (Nat.not_lt_zero _)
  | x :: r, hs, h, hsame => by
    obtain ⟨h1, h2⟩ := List.pairwise_cons.1 hs
    cases hx : lt x.1 nm with
    | true =>
      have e : under nm (x :: r) = under nm r + 1 := by simp [under, hx]
      have hne : same nm x = false := by
        cases hq : same nm x with
        | false => rfl
        | true => rw [same_iff.1 hq, lt_irrefl] at hx; cases hx
      have hlt : under nm r < r.length := by rw [e] at h; simpa using h
      have hsame2 : same nm r[under nm r] = true := by simpa [e] using hsame
      have ih := find_at h2 hlt hsame2
      have e2 : find nm (x :: r) = find nm r := by simp [find, hne]
      rw [e2, ih]
      simp [e]
    | false =>
      have e : under nm (x :: r) = 0 := by
        have hu := sorted_under nm (x :: r) hs 0 (by simp)
        rw [show (x :: r)[0] = x from rfl, hx] at hu
        simpa using hu.symm
      have hsame2 : same nm x = true := by simpa [e] using hsame
      simp [find, hsame2, e]
theorem find_none {nm : ByteArray} {l : List Ent} (h : has nm l = false) : find nm l = 0 := by
  have : l.find? (same nm) = none := List.find?_eq_none.2 fun x hx => List.any_eq_false.1 h x hx
  simp [find, this]

set_option maxRecDepth 100000 in
set_option maxHeartbeats 1000000 in
theorem find_any (hi d : Nat) (v : Value) (S : List Ent) (nm : ByteArray) (w : World) (hlen : S.length ≤ 1000) (hs : Sorted S) (h : DirAt hi w d v S) :
    Calls Try.prog 10 #[.pointer (some ⟨d, 0, none⟩), .string nm] w fun e w' => e = .returned (.tuple #[.int .i64 (find nm S), .bool (has nm S)]) ∧ Below w.heap.size w w' := by
  have cP := place_any hi d v S nm w hlen hs h
  have hh := sorted_has (n := nm) hs
  cases hq : has nm S with
  | false =>
    rw [hq] at cP
    rw [find_none hq]
    clear hh h
    go_enter Try.func10, Try.ntmps10
    go_wp2_with fail
    refine cP.mono ?_
    rintro e w1 ⟨rfl, hb⟩
    go_wp2
    go_ret2
    exact ⟨rfl, hb⟩
  | true =>
    rw [hq] at cP hh
    obtain ⟨hlt, hsm⟩ : ∃ hlt : under nm S < S.length, same nm S[under nm S] = true := by
      split at hh
      · rename_i hlt; exact ⟨hlt, hh.symm⟩
      · cases hh
    have hf := find_at hs hlt hsm
    have HX : Hid (∀ w1, Below w.heap.size w w1 → DirAt hi w1 d v S) := fun w1 hb => h.on hb
    obtain ⟨r, hr⟩ : ∃ r, find nm S = r := ⟨_, rfl⟩
    rw [hr] at hf ⊢
    generalize under nm S = p at *
    clear h hsm hh hr
    go_enter Try.func10, Try.ntmps10
    go_wp2_with fail
    refine cP.mono ?_
    rintro e w1 ⟨rfl, hb⟩
    have hd := HX.out w1 hb
    have x0 := hd.box.cell 0 rfl
    obtain ⟨g, cap, rfl, _, _, x1⟩ := ent_cell hd hlt
    rw [← hf] at x1
    have hz : (p : Int) < (S.length : Int) := by omega
    clear hd HX hf
    go_wp2
    go_ret2
    exact ⟨rfl, hb⟩

end Go.Proofs.Ytlpgflkfckhgeaa
