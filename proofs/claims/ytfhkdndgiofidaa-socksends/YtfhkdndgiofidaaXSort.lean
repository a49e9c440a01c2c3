/- The numbers of a store's sockets, sorted. -/
import Derived.Test.YtfhkdndgiofidaaShelfI
import Derived.Test.YtfhkdndgiofidaaShelf
import Derived.Test.YtfhkdndgiofidaaXLives
namespace Go.Proofs.Ytfhkdndgiofidaa.X
open Go Go.RowKit Go.Maps Go.Sort Go.Shelf Go.Proofs Go.Proofs.Ytfhkdndgiofidaa.K

theorem rises_unique : ∀ {a b : List Int}, a.Pairwise (· < ·) → b.Pairwise (· < ·) → (∀ x, x ∈ a ↔ x ∈ b) → a = b
  | [], [], _, _, _ => rfl
  | [], y :: r, _, _, h => absurd ((h y).2 (by simp)) (by simp)
  | x :: r, [], _, _, h => absurd ((h x).1 (by simp)) (by simp)
  | x :: r, y :: t, ha, hb, h => by
    have ha' := List.pairwise_cons.1 ha
    have hb' := List.pairwise_cons.1 hb
    have hxy : x = y := by
      rcases List.mem_cons.1 ((h x).1 (by simp)) with e | e
      · exact e
      · rcases List.mem_cons.1 ((h y).2 (by simp)) with e2 | e2
        · exact e2.symm
        · have h1 := hb'.1 x e
          have h2 := ha'.1 y e2
          omega
    subst hxy
    congr 1
    refine rises_unique ha'.2 hb'.2 fun z => ⟨fun hz => ?_, fun hz => ?_⟩
    · rcases List.mem_cons.1 ((h z).1 (List.mem_cons_of_mem _ hz)) with e | e
      · have := ha'.1 z hz; omega
      · exact e
    · rcases List.mem_cons.1 ((h z).2 (List.mem_cons_of_mem _ hz)) with e | e
      · have := hb'.1 z hz; omega
      · exact e
theorem merge_rises {l : List Int} (h : l.Nodup) : (l.mergeSort fun x y => decide (x ≤ y)).Pairwise (· < ·) := by
  have h1 := List.pairwise_mergeSort (le := fun x y : Int => decide (x ≤ y)) (fun a b c h1 h2 => by simp at *; omega) (fun a b => by simp; omega) l
  have h2 : (l.mergeSort fun x y => decide (x ≤ y)).Nodup := (List.mergeSort_perm l _).nodup_iff.2 h
  refine (h1.and h2).imp ?_
  intro a b ⟨h3, h4⟩
  simp at h3
  omega
/-- The numbers that there are. -/
def keysT (T : Tb) : List Nat := (List.range 1024).filter (hasT T)
abbrev zs (l : List Nat) : List Int := l.map fun (k : Nat) => (k : Int)
theorem keysT_mem {T : Tb} {k : Nat} : k ∈ keysT T ↔ k < 1024 ∧ hasT T k = true := by simp [keysT]
theorem keysT_rises (T : Tb) : (zs (keysT T)).Pairwise (· < ·) := by
  unfold zs keysT
  rw [List.pairwise_map]
  refine (List.Pairwise.filter _ List.pairwise_lt_range).imp fun h => by omega
theorem sortsA11 (m : Nat) : AnyZI.SortsIn Try.prog Try.sortedA_ren Fence.wide m :=
  ⟨fun blk off cap ss W hH hblk hsz => callsIn_wide.2 (Try.slices_Sort_int blk off cap ss W hH hblk hsz),
   fun p cap W => callsIn_wide.2 (Try.slices_Sort_int_none p cap W)⟩
theorem keys11 (mb : Option Nat) (W : World) : Calls Try.prog 52 #[.map mb] W fun e w' => e = .returned (.func (.func 81) #[] #[.pointer (some ⟨W.heap.size, 0, none⟩)]) ∧ w' = W.alloc (.cells #[.map mb] 63) :=
  (callsIn_wide (n := 5)).1 (AnyZI.keys_in Try.keysA Fence.wide 5 trivial rfl mb W)
theorem sorted11 {H : Type} {b nn : Nat} {D0 : DataW H} {R : Value → Option (DataW H × List MemPlace)} {w : World} (hown : w.ownsMap Try.prog 3 R b nn D0) (hmax : Maps.size D0 ≤ maxLen) (hbytes : Maps.size D0 * 8 ≤ 140737488355328) :
    Calls Try.prog 51 #[.func (.func 81) #[] #[.pointer (some ⟨w.heap.size, 0, none⟩)]] (w.alloc (.cells #[.map (some b)] 63)) fun e w' => ∃ (v : Value) (ss : List Int), e = .returned v ∧ ss.Perm (intKeys D0) ∧
      w'.ownsRow w.heap.size 3 1 v ss.length ((ss.mergeSort (fun x y => decide (x ≤ y))).map encZ) ∧ (v = .slice none 0 0 ↔ ss = []) ∧ Below w.heap.size w w' := by
  have hbl := hown.lt
  have hseq : SeqGives Fence.wide 2 Try.prog 81 #[.pointer (some ⟨w.heap.size, 0, none⟩)] encZ (fun ss => ss.Perm (intKeys D0)) (Maps.size D0) (w.alloc (.cells #[.map (some b)] 63)) :=
    AnyZI.keys_gives (ρ := Try.keysA_ren) { Try.keysA with } Fence.wide _ trivial rfl (by omega) w.heap.size b nn D0 _ (by simp) (by simp) (by
      obtain ⟨es, clock, hb, Ft, hs, hD⟩ := hown
      exact ⟨es, clock, (Below.heap_alloc _ _ b hbl).trans hb, Ft, hs, hD⟩)
  have cS := AnyZI.sorted_in Try.sortedA Fence.wide 5 trivial trivial trivial trivial rfl (by omega) (sortsA11 _) (enters_of Try.func80 (by kernel_rfl) rfl) 81 #[.pointer (some ⟨w.heap.size, 0, none⟩)] trivial (enters_of Try.func81 (by kernel_rfl) rfl) _ _ hmax hbytes _ hseq
  refine ((callsIn_wide (n := 5)).1 cS).mono ?_
  rintro e w' ⟨v, ss, rfl, hS, hrow, hnil, hb⟩
  exact ⟨v, ss, rfl, hS, ownsRow_base_a hrow (by simp), hnil, ((Below.refl _ w).alloc (Nat.le_refl _) _).trans (hb.mono (by simp))⟩
/-- The numbers of a store. -/
theorem StG.sorted {P : Nat → Prop} {w : World} {sb mb n next : Nat} {g : Nat → Nat} {T : Tb} (h : StG P w sb mb n next g T) :
    Calls Try.prog 51 #[.func (.func 81) #[] #[.pointer (some ⟨w.heap.size, 0, none⟩)]] (w.alloc (.cells #[.map (some mb)] 63)) fun e w' => ∃ p c, e = .returned (.slice p (keysT T).length c) ∧ (keysT T).length ≤ c ∧ AtF w.heap.size w' p (natsV (keysT T)) ∧ Below w.heap.size w w' := by
  obtain ⟨y, h1, _, h3⟩ := h
  have hsz : Maps.size y.D ≤ 1024 := by rw [h1.is.count]; exact cntF_le _ _
  refine (sorted11 h1.map (by unfold maxLen; omega) (by omega)).mono ?_
  rintro e w' ⟨v, ss, rfl, hss, hrow, _, hb⟩
  have hK : (zs (keysT T)).Perm ss := by
    obtain ⟨es, he, hpw⟩ := h1.map.tidy lawInt
    obtain ⟨es', he', hko⟩ := h1.map.keysOf
    obtain rfl : es = es' := by rw [he] at he'; simpa using he'
    refine List.Perm.trans ?_ hss.symm
    have hmem : ∀ x : Int, x ∈ zs (keysT T) ↔ has y.D (.int .i64 x) = true := fun x => by
      constructor
      · intro hx
        obtain ⟨k, hk, rfl⟩ := List.mem_map.1 hx
        exact (h1.is.held k (keysT_mem.1 hk).2).1
      · intro hx
        obtain ⟨k, e, hk⟩ := h1.is.keys _ hx
        have e' : x = (k : Int) := by unfold ky at e; simpa using e
        subst e'
        exact List.mem_map.2 ⟨k, keysT_mem.2 ⟨h1.is.small k hk, hk⟩, rfl⟩
    rw [he] at hmem ⊢
    refine perm_intKeys hpw (fun q hq => ?_) ((keysT_rises T).imp fun h => by omega) hmem
    obtain ⟨v, hv⟩ := hko q hq
    obtain ⟨x, _, hx, _⟩ := Maps.keyOf_i64 Try.underlying3 hv
    exact ⟨x, hx⟩
  have hnd : (zs (keysT T)).Nodup := (keysT_rises T).imp fun h => by omega
  have hms : ss.mergeSort (fun x y => decide (x ≤ y)) = zs (keysT T) := by
    refine rises_unique (merge_rises (hK.nodup_iff.1 hnd)) (keysT_rises T) fun x => ?_
    rw [List.mem_mergeSort]
    exact hK.symm.mem_iff
  have hlen : ss.length = (keysT T).length := by rw [← hK.length_eq]; simp
  rw [hms, hlen] at hrow
  obtain ⟨p, cap, e, hat, hc⟩ := rowS_at hrow
  refine ⟨p, cap, by rw [e], hc, ?_, hb⟩
  have e2 : (zs (keysT T)).map encZ = natsV (keysT T) := by simp [zs, natsV, encZ]
  rw [e2] at hat
  exact hat

end Go.Proofs.Ytfhkdndgiofidaa.X
