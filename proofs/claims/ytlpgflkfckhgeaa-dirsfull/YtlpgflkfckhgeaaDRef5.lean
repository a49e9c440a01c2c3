/- What the reference's Page answers, and its Names of two lists that are one. -/
import Derived.Test.YtlpgflkfckhgeaaDRef4
namespace Go.Proofs.Ytlpgflkfckhgeaa
open Go Go.RowKit

/-- The first value onto an empty slice without room: a new row. -/
theorem append_first {P : Program} {t e : TypeId} {z : Value} {bytes : Nat} (E : ElemOk P t e z bytes) (b : Nat) (x : Value) (W : World) :
    ∃ v' W', (Builtin.append_ #[t, t] t #[.slice (some ⟨b, 0, none⟩) 0 0, .slice (some ⟨W.heap.size, 0, none⟩) 1 1]).run P (W.alloc (.cells #[x] e)) = .ok v' W' ∧ OwnV W.heap.size e W' v' [x] ∧ Below W.heap.size W W' := by
  obtain ⟨i0, hi0, hz0, hz1, hz2⟩ := info_parts E.info
  have hfew := E.few
  obtain ⟨v', w', hrun, hown, hg⟩ := run_append_arg_grows (P := P) (W.alloc (.cells #[x] e)) t t e i0 z 1 bytes E.slice hi0 hz0 hz1 hz2 E.one (by decide) ⟨b, 0, none⟩ 0 0 [] rfl (fun j u hu => by simp at hu)
    ⟨W.heap.size, 0, none⟩ 1 1 [x] (by simp) (at_news (at_row1 W e x).at) (by omega) (by unfold maxLen; omega) (by omega)
  rw [Nat.zero_add, List.nil_append] at hown
  exact ⟨_, w', hrun, ownV_less hown (by simp), on_trans (on_alloc W _) ⟨hg.os, hg.tape, hg.output, hg.size, fun k hk => hg.block k hk (by simp)⟩⟩

/-- The page behind k names. -/
def PgInv (w w2 : World) (l : List ByteArray) (k : Nat) (v : Value) (wr : World) : Prop :=
  Below w2.heap.size w2 wr ∧ ((k = 0 ∧ v = .slice (some ⟨w.heap.size, 0, none⟩) 0 0) ∨ OwnV w2.heap.size 9 wr v (strV (l.take k)))
theorem pg_step {w w2 wr : World} {l : List ByteArray} {k : Nat} {v : Value} (h : PgInv w w2 l k v wr) (hk : k < l.length) (hl : l.length ≤ 1000) :
    ∃ v' W', (Builtin.append_ #[35, 35] 35 #[v, .slice (some ⟨wr.heap.size, 0, none⟩) 1 1]).run Try.prog (wr.alloc (.cells #[.string l[k]] 9)) = .ok v' W' ∧ PgInv w w2 l (k + 1) v' W' := by
  have e : strV (l.take (k + 1)) = strV (l.take k) ++ [.string l[k]] := by
    unfold strV
    rw [List.take_add_one, List.getElem?_eq_getElem hk, Option.toList_some, List.map_append]
    rfl
  rcases h.2 with ⟨rfl, rfl⟩ | ho
  · obtain ⟨v', W', h1, h2, h3⟩ := append_first elemStr w.heap.size (.string l[0]) wr
    exact ⟨v', W', h1, h.1.trans (h3.mono h.1.size), .inr (by rw [e]; exact ownV_less h2 h.1.size)⟩
  · obtain ⟨v', W', h1, h2, h3⟩ := append_one elemStr w2.heap.size v (strV (l.take k)) (.string l[k]) wr (by rw [strV_len, List.length_take]; omega) rfl ho h.1.size
    exact ⟨v', W', h1, h.1.trans h3, .inr (by rw [e]; exact h2)⟩
theorem pg_end {w w1 w2 wr : World} {l m : List ByteArray} {k : Nat} {v : Value} (h : PgInv w w2 l k v wr) (h1 : Below w.heap.size w w1) (h2 : Below w1.heap.size w1 w2) (e : l.take k = m) : RetNames w m (.returned v) wr := by
  subst e
  have hb := on_trans h1 h2
  have hB : Below w.heap.size w wr := hb.trans (h.1.mono hb.size)
  rcases h.2 with ⟨rfl, rfl⟩ | ho
  · exact ⟨some ⟨w.heap.size, 0, none⟩, 0, rfl, .nil _ _ _, hB⟩
  · obtain ⟨p, c, e, hat, _⟩ := ownV_at ho
    rw [strV_len] at e
    exact ⟨p, c, by rw [e], hat.less hb.size, hB⟩

set_option maxRecDepth 100000 in
set_option maxHeartbeats 2000000 in
theorem rpage_any (v : Value) (S l : List Ent) (fr n : Int) (w : World) (hR : Rel S l) (h : RowR 0 w v l) (hfr : fr ≤ 9223372036854775807) :
    Calls Try.prog 17 #[v, .int .i64 fr, .int .i64 n] w (RetNames w (pageL S fr n)) := by
  have hlen : (names S).length ≤ 64 := by rw [names_len]; exact hR.few'
  have hb1 := on_alloc w (.cells #[] 9)
  have cN := rnames_any v S l (w.alloc (.cells #[] 9)) hR (rowS_on h hb1)
  have HB1 : Hid (Below w.heap.size w (w.alloc (.cells #[] 9))) := hb1
  obtain ⟨p0, cap0, rfl⟩ := row_slice h
  have HE0 : Hid (fr < 0 → pageL S fr n = []) := fun h0 => by unfold pageL; rw [if_pos (.inl h0)]
  have HE1 : Hid (∀ f : Nat, fr = (f : Int) → ∀ k : Nat, (k = 0 ∨ f + k ≤ (names S).length) → (k : Int) ≤ max n 0 → ((names S).length ≤ f + k ∨ n ≤ (k : Int)) → ((names S).drop f).take k = pageL S fr n) := fun f hf k hk hkn hend => by
    subst hf
    unfold pageL
    by_cases hn : n < 0
    · rw [if_pos (.inr hn)]
      obtain rfl : k = 0 := by omega
      rfl
    · rw [if_neg (by omega), Int.toNat_natCast]
      by_cases hq : (k : Int) < n
      · rw [List.take_of_length_le (by rw [List.length_drop]; omega), List.take_of_length_le (by rw [List.length_drop]; omega)]
      · rw [show n.toNat = k by omega]
  clear h hb1
  generalize hM : names S = M at *
  generalize pageL S fr n = Z at *
  clear hM
  go_enter Try.func17, Try.ntmps17
  go_wp2_with fail
  refine cN.mono ?_
  rintro e w2 ⟨p, c, rfl, hat, hb2⟩
  by_cases h0 : fr < 0
  · have HX : Hid (RetNames w Z (.returned (.slice (some ⟨w.heap.size, 0, none⟩) 0 0)) w2) := ⟨_, _, by rw [HE0.out h0]; rfl, by rw [HE0.out h0]; exact .nil _ _ _, on_trans HB1.out hb2⟩
    generalize RetNames w Z = Post at *
    clear hat
    go_wp2
    exact HX.out
  · obtain ⟨f, rfl⟩ : ∃ f : Nat, fr = (f : Int) := ⟨fr.toNat, by omega⟩
    have HAT : Hid (AtF (w.alloc (.cells #[] 9)).heap.size w2 p (strV M)) := hat
    have HP : Hid (∀ k v wr, PgInv w w2 (M.drop f) k v wr → (k = 0 ∨ f + k ≤ M.length) → (k : Int) ≤ max n 0 → (M.length ≤ f + k ∨ n ≤ (k : Int)) → RetNames w Z (.returned v) wr) := fun k v wr h1 h2 h3 h4 => pg_end h1 HB1.out hb2 (HE1.out f rfl k h2 h3 h4)
    have HI : Hid (PgInv w w2 (M.drop f) 0 (.slice (some ⟨w.heap.size, 0, none⟩) 0 0) w2) := ⟨Below.refl _ _, .inl ⟨rfl, rfl⟩⟩
    generalize RetNames w Z = Post at *
    clear hat HE0 HE1 cN
    go_wp2
    go_loopw [7, 9] (fun o i wr => ∃ k : Nat, i = .int .i64 ((f + k : Nat) : Int) ∧ Hid (k = 0 ∨ f + k ≤ M.length) ∧ Hid ((k : Int) ≤ max n 0) ∧ Hid (PgInv w w2 (M.drop f) k o wr)) (fun _ i _ => M.length - (intOf i).toNat)
    case atStart => exact ⟨0, rfl, .inl rfl, by show (0 : Int) ≤ max n 0; omega, HI⟩
    case round =>
      clear HI
      obtain ⟨k, rfl, HK, HN, HI⟩ := hrel
      by_cases h1 : f + k < M.length
      · have h1z : ((f + k : Nat) : Int) < (M.length : Int) := by omega
        have hw : ((f + k : Nat) : Int) - (f : Int) = (k : Int) := by omega
        by_cases h2 : (k : Int) < n
        · obtain ⟨v', W', hrun, hI⟩ := pg_step HI.out (by rw [List.length_drop]; omega) (by rw [List.length_drop]; omega)
          have HI2 : Hid (PgInv w w2 (M.drop f) (k + 1) v' W') := hI
          obtain ⟨b, off, rfl, _, hbl, hc⟩ := (HAT.out.on HI.out.1).place (k := f + k) (by rw [strV_len]; exact h1)
          have x0 := hc (f + k) (.string M[f + k]) (by simp [strV, h1])
          rw [List.getElem_drop] at hrun
          generalize M[f + k] = y at *
          clear hc hI
          go_wp2_with (at_builtin; refine wpList_run_append rfl _ _ 35 rfl _ _ rfl rfl hrun ?_)
          go_roundw
          case rel => exact ⟨k + 1, by go_num, .inr (by omega), by show ((k + 1 : Nat) : Int) ≤ max n 0; omega, HI2⟩
          case measure => simp [intOf]; omega
        · go_wp2
          exact HP.out k _ _ HI.out HK.out HN.out (.inr (by omega))
      · have h1z : ¬ ((f + k : Nat) : Int) < (M.length : Int) := by omega
        go_wp2
        exact HP.out k _ _ HI.out HK.out HN.out (.inl (by omega))

end Go.Proofs.Ytlpgflkfckhgeaa
