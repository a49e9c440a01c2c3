/- The reference of layer 6 in memory: its box, its row of nodes. -/
import Derived.Test.YtpokdcimpplneaaC5
import Derived.Test.YtpokdcimpplneaaB3
import Derived.Test.YtpokdcimpplneaaA2
namespace Go.Proofs.Ytpokdcimpplneaa
open Go Go.RowKit

/-- A directory's entries (of layer 6: none). -/
def EntM (_w : World) (v : Value) (ds : List IEnt) : Prop := v = .slice none 0 0 ∧ ds = []
theorem EntM.slice {w : World} {v : Value} {ds : List IEnt} (h : EntM w v ds) : ∃ p c, v = .slice p ds.length c := by
  obtain ⟨rfl, rfl⟩ := h
  exact ⟨none, 0, rfl⟩
theorem EntM.nil (w : World) : EntM w (.slice none 0 0) [] := ⟨rfl, rfl⟩
theorem EntM.turns {q : Obj → Bool} {hi : Nat} {w w' : World} {v : Value} {ds : List IEnt} (h : EntM w v ds) (_ht : Turns q hi w w') (_hq : ∀ a t f, isR (.cells a t f) = false → isP (.cells a t f) = false → q (.cells a t f) = false) : EntM w' v ds := h

/-- A node in the row. -/
structure RN where
  n : Nd
  vB : Value
  vH : Value
  vL : Value
def RN.cells (x : RN) : List Value := [.int .i64 x.n.ino, .int .i64 x.n.kind, .int .i64 x.n.links, .int .i64 x.n.holds, .int .i64 x.n.par, x.vB, x.vH, .string x.n.tgt, x.vL]
def rcells (Q : List RN) : List Value := Q.flatMap RN.cells
theorem rcells_len (Q : List RN) : (rcells Q).length = Q.length * 9 := by
  induction Q with
  | nil => rfl
  | cons x r ih => simp only [rcells, List.flatMap_cons, List.length_append, List.length_cons] at *; rw [ih]; simp [RN.cells]; omega
theorem rcells_get {Q : List RN} {k i : Nat} (hk : k < Q.length) (hi : i < 9) : (rcells Q)[k * 9 + i]? = (Q[k].cells)[i]? := by
  induction Q generalizing k with
  | nil => simp at hk
  | cons x r ih =>
    simp only [rcells, List.flatMap_cons]
    have hx : x.cells.length = 9 := rfl
    cases k with
    | zero => rw [List.getElem?_append_left (by omega)]; simp
    | succ k =>
      rw [List.getElem?_append_right (by omega), hx, show (k + 1) * 9 + i - 9 = k * 9 + i by omega]
      exact ih (by simpa using hk)
theorem rcells_set {Q : List RN} {k i : Nat} (hk : k < Q.length) (hi : i < 9) (v : Value) (y : RN) (hy : y.cells = Q[k].cells.set i v) : (rcells Q).set (k * 9 + i) v = rcells (Q.set k y) := by
  induction Q generalizing k with
  | nil => simp at hk
  | cons x r ih =>
    have hx : x.cells.length = 9 := rfl
    cases k with
    | zero =>
      simp only [rcells, List.flatMap_cons, List.set_cons_zero]
      rw [List.set_append_left _ _ (by omega), hy]
      simp
    | succ k =>
      simp only [rcells, List.flatMap_cons, List.set_cons_succ]
      rw [List.set_append_right _ _ (by omega), hx, show (k + 1) * 9 + i - 9 = k * 9 + i by omega]
      congr 1
      exact ih (by simpa using hk) (by simpa using hy)
theorem rcells_append (a b : List RN) : rcells (a ++ b) = rcells a ++ rcells b := List.flatMap_append
theorem rcells_take : ∀ (Q : List RN) (k : Nat), (rcells Q).take (k * 9) = rcells (Q.take k)
  | [], k => by simp [rcells]
  | x :: l, 0 => by simp [rcells]
  | x :: l, k + 1 => by
    have hx : x.cells.length = 9 := rfl
    have := rcells_take l k
    simp only [rcells, List.flatMap_cons, List.take_succ_cons] at *
    rw [List.take_append, hx, show (k + 1) * 9 - 9 = k * 9 by omega, this, List.take_of_length_le (by omega)]
theorem rcells_drop : ∀ (Q : List RN) (k : Nat), (rcells Q).drop (k * 9) = rcells (Q.drop k)
  | [], k => by simp [rcells]
  | x :: l, 0 => by simp [rcells]
  | x :: l, k + 1 => by
    have hx : x.cells.length = 9 := rfl
    have := rcells_drop l k
    simp only [rcells, List.flatMap_cons, List.drop_succ_cons] at *
    rw [List.drop_append, hx, show (k + 1) * 9 - 9 = k * 9 by omega, this, List.drop_of_length_le (by omega), List.nil_append]
/-- What a node's values are. -/
structure RNodeAt (w : World) (x : RN) : Prop where
  file : ∃ B H, Rel x.n.f B H ∧ OwnV 0 5 w x.vB (bytesV B) ∧ OwnV 0 4 w x.vH (boolsV H)
  ents : EntM w x.vL x.n.ds
/-- The reference's store. -/
structure RefM (hi : Nat) (w : World) (rb : Nat) (rv : Value) (Q : List RN) (next most tot : Int) : Prop where
  box : Blk w rb 53 [rv, .int .i64 next, .int .i64 most, .int .i64 tot]
  row : w.ownsRow hi 50 9 rv Q.length (rcells Q)
  node : ∀ x ∈ Q, RNodeAt w x
  lo : hi ≤ rb
def RefAt6 (hi : Nat) (w : World) (rb : Nat) (s : SS) : Prop := ∃ rv Q, Q.map RN.n = s.L ∧ RefM hi w rb rv Q s.next s.most s.tot

section
variable {q : Obj → Bool} {hi hi' rb : Nat} {w w' : World} {rv : Value} {Q : List RN} {next most tot : Int} {x : RN}
theorem RNodeAt.turns (h : RNodeAt w x) (ht : Turns q hi' w w') (hq : ∀ a t f, isR (.cells a t f) = false → isP (.cells a t f) = false → q (.cells a t f) = false) : RNodeAt w' x := by
  obtain ⟨B, H, h1, h2, h3⟩ := h.file
  exact ⟨⟨B, H, h1, ht.rowS h2 fun a f => hq _ _ _ rfl rfl, ht.rowS h3 fun a f => hq _ _ _ rfl rfl⟩, h.ents.turns ht hq⟩
theorem RNodeAt.on (h : RNodeAt w x) (hb : Below w.heap.size w w') : RNodeAt w' x := h.turns (q := fun _ => false) (hi' := 0) (.on hb) fun _ _ _ _ _ => rfl
/-- The reference's store stays while the program's is turned. -/
theorem RefM.turns (h : RefM hi w rb rv Q next most tot) (ht : Turns q hi' w w') (hq : ∀ o, isP o = false → q o = false) : RefM hi w' rb rv Q next most tot :=
  ⟨ht.blk h.box fun _a _f => hq _ rfl, ht.rowS h.row fun _a _f => hq _ rfl, fun x hx => (h.node x hx).turns ht fun _ _ _ _ h => hq _ h, h.lo⟩
theorem RefM.on (h : RefM hi w rb rv Q next most tot) (hb : Below w.heap.size w w') : RefM hi w' rb rv Q next most tot := h.turns (q := fun _ => false) (hi' := 0) (.on hb) fun _ _ => rfl
theorem RefAt6.turns {s : SS} (h : RefAt6 hi w rb s) (ht : Turns isP hi' w w') : RefAt6 hi w' rb s := by
  obtain ⟨rv, Q, e, h⟩ := h
  exact ⟨rv, Q, e, h.turns ht fun _ h => h⟩
theorem RefAt6.on {s : SS} (h : RefAt6 hi w rb s) (hb : Below w.heap.size w w') : RefAt6 hi w' rb s := by
  obtain ⟨rv, Q, e, h⟩ := h
  exact ⟨rv, Q, e, h.on hb⟩
theorem StoreAt.turnsR {sb : Nat} {s : SS} (h : StoreAt hi w sb s) (ht : Turns isR hi' w w') : StoreAt hi w' sb s := by
  obtain ⟨mb, D, Fs, h⟩ := h
  exact ⟨mb, D, Fs, h.turns ht fun o ho => isP_isR ho⟩
theorem StoreAt.on {sb : Nat} {s : SS} (h : StoreAt hi w sb s) (hb : Below w.heap.size w w') : StoreAt hi w' sb s := by
  obtain ⟨mb, D, Fs, h⟩ := h
  exact ⟨mb, D, Fs, h.on hb⟩
/-- Its row, where it is not empty. -/
theorem RefM.place (h : RefM hi w rb rv Q next most tot) {k : Nat} (hk : k < Q.length) : ∃ g cap, rv = .slice (some ⟨g, 0, none⟩) Q.length cap ∧ hi ≤ g ∧ g < w.heap.size ∧ g ≠ rb ∧ ∀ i, i < 9 → ∀ v, (Q[k].cells)[i]? = some v → w.cell? ⟨g, k * 9 + i, none⟩ = some v := by
  have hr := h.row
  rcases h.row.2 with ⟨_, h1⟩ | ⟨g, cap, cur, rfl, hb, hg, hc, hm, hs, ht⟩
  · omega
  · refine ⟨g, cap, rfl, hb, (Array.getElem?_eq_some_iff.1 hg).1, fun e => ?_, fun i hi v hv => ?_⟩
    · subst e
      rw [h.box.row] at hg
      simp at hg
    · obtain ⟨cs, hB, hcl, hn, _, _, htk⟩ := rowS_blk hr
      refine hB.cell (k * 9 + i) ?_
      rw [← rcells_get hk hi, ← htk, List.getElem?_take_of_lt (by omega)] at hv
      exact hv
theorem RefM.slice (h : RefM hi w rb rv Q next most tot) : ∃ p cap, rv = .slice p Q.length cap := by
  obtain ⟨p, cap, e, _⟩ := rowS_at h.row
  exact ⟨p, cap, e⟩
end

theorem ix_map {Q : List RN} {L : List Nd} (e : Q.map RN.n = L) : Q.length = L.length := by rw [← e]; simp
theorem map_get {Q : List RN} {L : List Nd} (e : Q.map RN.n = L) {i : Nat} (h : i < Q.length) (h' : i < L.length) : Q[i].n = L[i] := by subst e; simp

/-- Where a number is, told as a number. -/
def ixZ (L : List Nd) (x : Int) : Int := match ix L x with | none => -1 | some i => (i : Int)
theorem ixZ_from {L : List Nd} {x : Int} {k : Nat} (hk : k < L.length) (hb : ∀ j, (h : j < k) → ((L[j]'(by omega)).ino : Int) ≠ x) (he : ((L[k].ino : Nat) : Int) = x) : ixZ L x = (k : Int) := by
  have : ix L x = some k := List.findIdx?_eq_some_iff_getElem.2 ⟨hk, by simpa using he, fun j hj => by simpa using hb j hj⟩
  unfold ixZ; rw [this]
theorem ixZ_none {L : List Nd} {x : Int} (hb : ∀ j, (h : j < L.length) → ((L[j]).ino : Int) ≠ x) : ixZ L x = -1 := by
  have : ix L x = none := List.findIdx?_eq_none_iff.2 fun n hn => by
    obtain ⟨j, hj, rfl⟩ := List.getElem_of_mem hn
    simpa using hb j hj
  unfold ixZ; rw [this]
theorem ixZ_look_some {s : SS} {x : Int} {i : Nat} {n : Nd} (h : look s x = some (i, n)) : ixZ s.L x = (i : Int) := by
  obtain ⟨_, _, _, h1⟩ := look_some h
  unfold ixZ; rw [h1]
theorem ixZ_look_none {s : SS} {x : Int} (h : look s x = none) : ixZ s.L x = -1 := by
  unfold ixZ; rw [(look_none h).1]

set_option maxRecDepth 100000 in
set_option maxHeartbeats 1000000 in
theorem rat_any {hi rb : Nat} {w : World} {s : SS} (h : RefAt6 hi w rb s) (x : Int) (hl : s.L.length ≤ 1000000) : Calls Try.prog 15 #[ptr rb, .int .i64 x] w fun e w' => e = .returned (.int .i64 (ixZ s.L x)) ∧ w' = w := by
  obtain ⟨rv, Q, eQ, h⟩ := h
  have hQ := ix_map eQ
  have HE : Hid (Q.map RN.n = s.L) := eQ
  have HR : Hid (RefM hi w rb rv Q s.next s.most s.tot) := h
  have x0 := h.box.cell 0 rfl
  obtain ⟨p, cap, rfl⟩ := h.slice
  rw [hQ] at x0
  obtain ⟨r, hr⟩ : ∃ r, Hid (ixZ s.L x = r) := ⟨_, rfl⟩
  rw [hr.out]
  clear h eQ
  go_enter Try.func15, Try.ntmps15
  go_wp2
  go_loop [5] (fun iv => ∃ k : Nat, k ≤ s.L.length ∧ iv = .int .i64 k ∧ Hid (∀ j, (h : j < s.L.length) → j < k → (s.L[j].ino : Int) ≠ x)) (fun iv => s.L.length - (intOf iv).toNat)
  case atStart => exact ⟨0, Nat.zero_le _, rfl, fun j _ h => by omega⟩
  case round =>
    obtain ⟨k, hk, rfl, HB⟩ := hrel
    by_cases hlt : k < s.L.length
    · have hltz : (k : Int) < (s.L.length : Int) := by omega
      obtain ⟨g, cap', e, _, _, _, hc⟩ := HR.out.place (k := k) (by omega)
      cases e
      have c0 := hc 0 (by omega) _ rfl
      rw [show (Q[k]'(by omega)).n.ino = s.L[k].ino by rw [map_get HE.out (by omega) hlt]] at c0
      simp only [Nat.add_zero] at c0
      clear hc
      by_cases hx : (s.L[k].ino : Int) = x
      · have HZ : Hid ((k : Int) = r) := by rw [← hr.out]; exact (ixZ_from hlt (fun j hj => HB.out j (by omega) hj) hx).symm
        have hxb : ((s.L[k].ino : Int) == x) = true := by simpa using hx
        go_wp2
        go_ret
        exact ⟨by rw [HZ.out]; rfl, rfl⟩
      · have HB2 : Hid (∀ j, (h : j < s.L.length) → j < k + 1 → (s.L[j].ino : Int) ≠ x) := fun j hj hjk => by
          by_cases e : j = k
          · subst e; exact hx
          · exact HB.out j hj (by omega)
        go_wp2
        go_round
        case rel => exact ⟨k + 1, by omega, by go_num, HB2⟩
        case measure => simp [intOf]; omega
    · obtain rfl : k = s.L.length := by omega
      have hltz : ¬ (s.L.length : Int) < (s.L.length : Int) := by omega
      have HZ : Hid ((-1 : Int) = r) := by rw [← hr.out]; exact (ixZ_none fun j hj => HB.out j hj hj).symm
      go_wp2
      go_ret
      exact ⟨by rw [HZ.out]; rfl, rfl⟩

end Go.Proofs.Ytpokdcimpplneaa

namespace Go.Proofs.Ytpokdcimpplneaa
open Go Go.RowKit

theorem RNodeAt.slices {w : World} {x : RN} (h : RNodeAt w x) : ∃ p c q d B H, x.vB = .slice p (B : List UInt8).length c ∧ x.vH = .slice q (H : List Bool).length d ∧ Rel x.n.f B H ∧ At w p (bytesV B) ∧ At w q (boolsV H) := by
  obtain ⟨B, H, h1, h2, h3⟩ := h.file
  obtain ⟨p, c, e1, a1, _⟩ := ownV_at h2
  obtain ⟨q, d, e2, a2, _⟩ := ownV_at h3
  rw [List.length_map] at e1 e2
  exact ⟨p, c, q, d, B, H, e1, e2, h1, a1, a2⟩

def newOk (n b : Int) : Bool := decide (1 ≤ n) && decide (n ≤ 256) && decide (0 ≤ b) && decide (b ≤ 4096)
theorem infoRS : (Try.prog.info? 53).map (·.size) = some 4 := by kernel_rfl
set_option maxRecDepth 100000 in
set_option maxHeartbeats 1000000 in
theorem rnew_any (n b : Int) (w : World) : Calls Try.prog 17 #[.int .i64 n, .int .i64 b] w fun e w' => e = .returned (.tuple #[.agg #[.slice none 0 0, .int .i64 1, .int .i64 n, .int .i64 b], .bool (newOk n b)]) ∧ Below w.heap.size w w' := by
  have HB : Hid (Below w.heap.size w (w.alloc (.cells #[.slice none 0 0, .int .i64 1, .int .i64 n, .int .i64 b] 53))) := on_alloc w _
  have HX : Hid (Blk (w.alloc (.cells #[.slice none 0 0, .int .i64 1, .int .i64 n, .int .i64 b] 53)) w.heap.size 53 [.slice none 0 0, .int .i64 1, .int .i64 n, .int .i64 b]) := Blk.new w _ [.slice none 0 0, .int .i64 1, .int .i64 n, .int .i64 b]
  have HN : Hid (newOk n b = (decide (1 ≤ n) && decide (n ≤ 256) && decide (0 ≤ b) && decide (b ≤ 4096))) := rfl
  obtain ⟨r, hr⟩ : ∃ r, newOk n b = r := ⟨_, rfl⟩
  rw [hr] at HN ⊢
  clear hr
  by_cases h1 : 1 ≤ n
  · by_cases h2 : n ≤ 256
    · by_cases h3 : 0 ≤ b
      · by_cases h4 : b ≤ 4096
        · have e : r = true := by rw [HN.out]; simp [h1, h2, h3, h4]
          subst e
          go_enter Try.func17, Try.ntmps17
          go_wp2
          exact bodyPost_ret (results_blkT (cs := [.slice none 0 0, .int .i64 1, .int .i64 n, .int .i64 b]) Try.isAgg53 infoRS rfl _ _ rfl rfl HX.out) rfl ⟨rfl, HB.out⟩
        · have e : r = false := by rw [HN.out]; simp [h1, h2, h3, h4]
          subst e
          go_enter Try.func17, Try.ntmps17
          go_wp2
          exact bodyPost_ret (results_blkT (cs := [.slice none 0 0, .int .i64 1, .int .i64 n, .int .i64 b]) Try.isAgg53 infoRS rfl _ _ rfl rfl HX.out) rfl ⟨rfl, HB.out⟩
      · have e : r = false := by rw [HN.out]; simp [h3]
        subst e
        go_enter Try.func17, Try.ntmps17
        go_wp2
        exact bodyPost_ret (results_blkT (cs := [.slice none 0 0, .int .i64 1, .int .i64 n, .int .i64 b]) Try.isAgg53 infoRS rfl _ _ rfl rfl HX.out) rfl ⟨rfl, HB.out⟩
    · have e : r = false := by rw [HN.out]; simp [h2]
      subst e
      go_enter Try.func17, Try.ntmps17
      go_wp2
      exact bodyPost_ret (results_blkT (cs := [.slice none 0 0, .int .i64 1, .int .i64 n, .int .i64 b]) Try.isAgg53 infoRS rfl _ _ rfl rfl HX.out) rfl ⟨rfl, HB.out⟩
  · have e : r = false := by rw [HN.out]; simp [h1]
    subst e
    go_enter Try.func17, Try.ntmps17
    go_wp2
    exact bodyPost_ret (results_blkT (cs := [.slice none 0 0, .int .i64 1, .int .i64 n, .int .i64 b]) Try.isAgg53 infoRS rfl _ _ rfl rfl HX.out) rfl ⟨rfl, HB.out⟩
theorem refM_new {hi : Nat} {w : World} {rb n b : Nat} (h : Blk w rb 53 [.slice none 0 0, .int .i64 1, .int .i64 n, .int .i64 b]) (hl : hi ≤ rb) : RefAt6 hi w rb (newS n b) :=
  ⟨.slice none 0 0, [], rfl, h, World.ownsRow_nil _ _ _ _, (fun x hx => by cases hx), hl⟩

set_option maxRecDepth 100000 in
set_option maxHeartbeats 1000000 in
theorem rfile_any {hi rb : Nat} {w : World} {s : SS} (h : RefAt6 hi w rb s) (x : Int) (hl : s.L.length ≤ 1000000) : Calls Try.prog 41 #[ptr rb, .int .i64 x] w fun e w' => e = .returned (.tuple #[.int .i64 (if fileE s x = 0 then ixZ s.L x else 0), .int .i64 (fileE s x : Nat)]) ∧ w' = w := by
  have c := rat_any h x hl
  unfold fileE
  cases hx : look s x with
  | none =>
    rw [ixZ_look_none hx] at c
    clear h hx
    go_enter Try.func41, Try.ntmps41
    go_wp2_with fail
    refine c.mono ?_
    rintro e w1 ⟨rfl, hw1⟩
    subst w1
    go_wp2
    go_ret2
    exact ⟨rfl, rfl⟩
  | some y =>
    obtain ⟨i, n⟩ := y
    obtain ⟨hi', rfl, _, _⟩ := look_some hx
    rw [ixZ_look_some hx] at c ⊢
    obtain ⟨rv, Q, eQ, h⟩ := h
    have hQ := ix_map eQ
    obtain ⟨g, cap, rfl, _, _, _, hc⟩ := h.place (k := i) (by omega)
    have x0 := h.box.cell 0 rfl
    have c1 := hc 1 (by omega) _ rfl
    rw [show (Q[i]'(by omega)).n.kind = s.L[i].kind by rw [map_get eQ (by omega) hi']] at c1
    rw [hQ] at x0
    have hiz : (i : Int) < (s.L.length : Int) := by omega
    have hiz2 : ¬ (i : Int) < 0 := by omega
    clear h hc hx eQ hQ
    show Calls _ _ _ _ fun e w' => e = .returned (.tuple #[.int .i64 (if (if s.L[i].kind = 1 then 0 else 22) = 0 then (i : Int) else 0), .int .i64 ((if s.L[i].kind = 1 then 0 else 22 : Nat) : Int)]) ∧ w' = w
    generalize s.L[i].kind = k at *
    by_cases hk : k = 1
    · subst hk
      rw [if_pos rfl, if_pos rfl]
      go_enter Try.func41, Try.ntmps41
      go_wp2_with fail
      refine c.mono ?_
      rintro e w1 ⟨rfl, hw1⟩
      subst w1
      go_wp2
      go_ret2
      exact ⟨rfl, rfl⟩
    · rw [if_neg hk, if_neg (by simp)]
      have hkz : ¬ (k : Int) = 1 := by omega
      generalize (k : Int) = kz at *
      go_enter Try.func41, Try.ntmps41
      go_wp2_with fail
      refine c.mono ?_
      rintro e w1 ⟨rfl, hw1⟩
      subst w1
      go_wp2
      go_ret2
      exact ⟨rfl, rfl⟩

theorem sumB_take {L : List Nd} {k : Nat} (h : k < L.length) : sumB (L.take (k + 1)) = sumB (L.take k) + L[k].f.blocks := by
  rw [List.take_add_one, List.getElem?_eq_getElem h, sumB_append]
  simp [sumB]
theorem sumB_take_le (L : List Nd) (k : Nat) : sumB (L.take k) ≤ sumB L := by
  conv => rhs; rw [← List.take_append_drop k L, sumB_append]
  omega
set_option maxRecDepth 100000 in
set_option maxHeartbeats 1000000 in
theorem rroom_any {hi rb c : Nat} {w : World} {s : SS} (h : RefAt6 hi w rb s) (hf : Wf s c) : Calls Try.prog 37 #[ptr rb] w fun e w' => e = .returned (.tuple #[.int .i64 ((s.most : Int) - (s.L.length : Int)), .int .i64 s.bl]) ∧ Below w.heap.size w w' := by
  obtain ⟨rv, Q, eQ, h⟩ := h
  have hQ := ix_map eQ
  have HE : Hid (Q.map RN.n = s.L) := eQ
  have HR : Hid (RefM hi w rb rv Q s.next s.most s.tot) := h
  have x3 := h.box.cell 3 rfl
  have hm := hf.most
  have hro := hf.room
  have htot := hf.tot
  have HSum : Hid (∀ k, sumB (s.L.take k) ≤ s.tot) := fun k => Nat.le_trans (sumB_take_le _ _) hf.sum
  have HBL : Hid ((s.tot : Int) - (sumB (s.L.take s.L.length) : Int) = s.bl) := by rw [List.take_length]; rfl
  obtain ⟨p, cap, rfl⟩ := h.slice
  generalize s.bl = bl at *
  clear h eQ hf
  go_enter Try.func37, Try.ntmps37
  go_wp2
  go_loopw [4, 5] (fun nv iv wr => ∃ k : Nat, k ≤ s.L.length ∧ iv = .int .i64 k ∧ nv = .int .i64 ((s.tot : Int) - (sumB (s.L.take k) : Int)) ∧ Hid (Below w.heap.size w wr)) (fun _ iv _ => s.L.length - (intOf iv).toNat)
  case atStart => exact ⟨0, Nat.zero_le _, rfl, by simp [sumB], Below.refl _ _⟩
  case round =>
    obtain ⟨k, hk, rfl, rfl, HB⟩ := hrel
    have hR := HR.out.on HB.out
    have x0 := hR.box.cell 0 rfl
    have x2 := hR.box.cell 2 rfl
    rw [hQ] at x0
    by_cases hlt : k < s.L.length
    · have hltz : (k : Int) < (s.L.length : Int) := by omega
      obtain ⟨g, cap', e, _, _, _, hc⟩ := hR.place (k := k) (by omega)
      cases e
      obtain ⟨pB, cB, qH, dH, B, H, e1, e2, hRel, _, hH⟩ := (hR.node (Q[k]'(by omega)) (List.getElem_mem _)).slices
      have c5 := hc 5 (by omega) _ rfl
      have c6 := hc 6 (by omega) _ rfl
      rw [e1] at c5
      rw [e2] at c6
      have cBl := blocks_any pB qH cB dH B.length H wr (by have := hRel.lenH; omega) hH
      have hfb : many H = s.L[k].f.blocks := by rw [← hRel.blocks, map_get HE.out (by omega) hlt]
      rw [hfb] at cBl
      have hst := sumB_take hlt
      have h1 := HSum.out k
      have h2 := HSum.out (k + 1)
      have HN : Hid ((s.tot : Int) - (sumB (s.L.take k) : Int) - (s.L[k].f.blocks : Int) = (s.tot : Int) - (sumB (s.L.take (k + 1)) : Int)) := show _ = _ by omega
      have hbz : 0 ≤ (s.tot : Int) - (sumB (s.L.take k) : Int) - (s.L[k].f.blocks : Int) ∧ (s.tot : Int) - (sumB (s.L.take k) : Int) - (s.L[k].f.blocks : Int) ≤ 4096 := by omega
      clear hc e1 e2 hRel hH hfb hst h1 h2 hR
      generalize (s.tot : Int) - (sumB (s.L.take k) : Int) = a at *
      generalize (s.L[k].f.blocks : Int) = b at *
      go_wp2_with fail
      refine cBl.mono ?_
      rintro e w2 ⟨rfl, hb2⟩
      have HB2 : Hid (Below w.heap.size w w2) := on_trans HB.out hb2
      clear hb2 cBl HB
      go_wp2
      go_roundw
      case rel => exact ⟨k + 1, by omega, by go_num, by rw [HN.out], HB2⟩
      case measure => simp [intOf]; omega
    · obtain rfl : k = s.L.length := by omega
      have hltz : ¬ (s.L.length : Int) < (s.L.length : Int) := by omega
      rw [HBL.out]
      clear hR
      go_wp2
      go_quiet (fail)
      go_wp2
      go_ret2
      exact ⟨rfl, on_drewN HB.out _⟩

end Go.Proofs.Ytpokdcimpplneaa
