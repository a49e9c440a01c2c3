/- A store beside what a law does; two joined sockets; the law's lives. -/
import Derived.Test.YtfhkdndgiofidaaXSend
import Derived.Test.YtfhkdndgiofidaaKLives
namespace Go.Proofs.Ytfhkdndgiofidaa.X
open Go Go.RowKit Go.Maps Go.Proofs.Ytfhkdndgiofidaa.K

/-- A store that is younger than a world. -/
structure XS (w : World) (P : Nat → Prop) (W : World) (sb mb n next : Nat) (g : Nat → Nat) (T : Tb) : Prop where
  st : StG P W sb mb n next g T
  lo : ∀ k, P k → w.heap.size ≤ k
  below : Below w.heap.size w W
section
variable {w W W' : World} {P P' : Nat → Prop} {sb mb n next next' : Nat} {g g' : Nat → Nat} {T T' : Tb}
theorem XS.on (h : XS w P W sb mb n next g T) (hb : Below W.heap.size W W') : XS w P W' sb mb n next g T := ⟨h.st.on hb, h.lo, on_trans h.below hb⟩
theorem XS.moves (h : XS w P W sb mb n next g T) (hs : StG P' W' sb mb n next' g' T') (hm : Moves P P' W W') : XS w P' W' sb mb n next' g' T' := by
  have := hm.below h.below h.lo h.below.size
  exact ⟨hs, this.2, this.1⟩
theorem XS.new {e : Ending} (h : NewPost n w e W) : ∃ sb mb g P, e = .returned (ptr sb) ∧ XS w P W sb mb n 1 g (fun _ => none) := by
  obtain ⟨sb, mb, g, P, h1, h2, h3, h4⟩ := h
  exact ⟨sb, mb, g, P, h1, h2, h4, h3⟩
end
/-- Two sockets that are joined; the second one's queue. -/
def oneK (sa : Bool) : Sk := ⟨2, 2, 0, 0, 0, [], false, sa, []⟩
def twoK (ps : List Pt) : Sk := ⟨2, 1, 0, 0, 0, [], false, false, ps⟩
def twoT (sa : Bool) (ps : List Pt) : Tb := fun j => if j = 1 then some (oneK sa) else if j = 2 then some (twoK ps) else none
theorem pair_two : pairT (fun _ => none) 1 = twoT false [] := by
  funext j
  unfold pairT joinT setT twoT freshK oneK twoK
  by_cases h2 : j = 2
  · subst h2; rfl
  · by_cases h1 : j = 1
    · subst h1; rfl
    · simp [h1, h2]
theorem two_put (sa : Bool) (ps ps' : List Pt) : setT (twoT sa ps) 2 (some { twoK ps with ps := ps' }) = twoT sa ps' := by
  funext j
  unfold setT twoT twoK
  by_cases h2 : j = 2
  · subst h2; rfl
  · simp [h2]
theorem two_shut (ps : List Pt) : setT (twoT false ps) 1 (some { oneK false with sw := true }) = twoT true ps := by
  funext j
  unfold setT twoT oneK
  by_cases h2 : j = 1
  · subst h2; rfl
  · simp [h2]
section
variable {P : Nat → Prop} {w : World} {sb mb n : Nat} {g : Nat → Nat} {sa : Bool} {ps : List Pt}
/-- What Send of the first one leaves. -/
def Send2 (P : Nat → Prop) (w : World) (sb mb n : Nat) (g : Nat → Nat) (ps : List Pt) (b : List UInt8) (L : List Ps) (e : Ending) (w' : World) : Prop :=
  e = .returned (.tuple #[.int .i64 ((putF n ps b L).2.1 : Nat), .int .i64 (putF n ps b L).2.2]) ∧ ∃ P', StG P' w' sb mb n 3 g (twoT false (putF n ps b L).1) ∧ Moves P P' w w'
theorem send2 (h : StG P w sb mb n 3 g (twoT false ps)) (bv lv : Value) (b : List UInt8) (L : List Ps) (hb : BytO (fun j => ¬ P j) w bv b) (hl : PasO (fun j => ¬ P j) w lv L) (hbm : b.length ≤ 100000) (hfew : ∀ y ∈ L, y.ints.length ≤ 100) :
    Calls Try.prog 24 #[ptr sb, .int .i64 1, bv, lv] w (Send2 P w sb mb n g ps b L) := by
  have := send_good (k := 1) (x := oneK false) (y := twoK ps) (pk := 2) h rfl rfl rfl rfl rfl bv lv b L hb hl hbm hfew
  refine this.mono ?_
  rintro e w' ⟨h1, P', h2, h3⟩
  rw [two_put] at h2
  exact ⟨h1, P', h2, h3⟩
/-- What Recv of the second one leaves. -/
def Recv2 (P : Nat → Prop) (w : World) (sb mb n : Nat) (g : Nat → Nat) (sa : Bool) (ps : List Pt) (m t : Int) (e : Ending) (w' : World) : Prop :=
  ∃ P' v1 v2 v3, e = .returned (.tuple #[v1, v2, v3, .int .i64 (if ps = [] ∧ 1 ≤ m ∧ sa = false then 35 else 0)]) ∧ StG P' w' sb mb n 3 g (twoT sa (takeF ps m t).1) ∧ Moves P P' w w' ∧ BytO (fun j => w.heap.size ≤ j) w' v1 (takeF ps m t).2.1 ∧ (∃ p l c, v2 = .slice p l c) ∧ ∃ p l c, v3 = .slice p l c
theorem recv2 (h : StG P w sb mb n 3 g (twoT sa ps)) (m t : Int) (hm2 : m ≤ 9223372036854775807) : Calls Try.prog 25 #[ptr sb, .int .i64 2, .int .i64 m, .int .i64 t] w (Recv2 P w sb mb n g sa ps m t) := by
  by_cases hm : m < 1
  · refine (recv_low (k := 2) (x := twoK ps) h rfl rfl m t hm).mono ?_
    rintro e w' ⟨rfl, hw⟩
    subst hw
    have e1 : takeF ps m t = (ps, [], [], []) := by
      cases ps with
      | nil => rfl
      | cons a r => simp [takeF, hm]
    refine ⟨P, .slice none 0 0, .slice none 0 0, .slice none 0 0, ?_, ?_, .refl _ _, ?_, ⟨_, _, _, rfl⟩, _, _, _, rfl⟩
    · rw [if_neg (by omega)]
    · rw [e1]; exact h
    · rw [e1]; exact BytO.nil _ _
  · by_cases hps : ps = []
    · subst hps
      have e1 : takeF [] m t = ([], [], [], []) := rfl
      cases sa with
      | true =>
        refine (recv_end (k := 2) (x := twoK []) h rfl rfl m t (by omega) (by simp [twoK]) rfl rfl).mono ?_
        rintro e w' ⟨rfl, hw⟩
        exact ⟨P, .slice none 0 0, .slice none 0 0, .slice none 0 0, by rw [if_neg (by simp)], h.on hw, .on hw, BytO.nil _ _, ⟨_, _, _, rfl⟩, _, _, _, rfl⟩
      | false =>
        refine (recv_dry (k := 2) (x := twoK []) h rfl rfl m t (by omega) (by simp [twoK]) rfl rfl).mono ?_
        rintro e w' ⟨rfl, hw⟩
        exact ⟨P, .slice none 0 0, .slice none 0 0, .slice none 0 0, by rw [if_pos ⟨rfl, by omega, rfl⟩], h.on hw, .on hw, BytO.nil _ _, ⟨_, _, _, rfl⟩, _, _, _, rfl⟩
    · refine (recv_good (k := 2) (x := twoK ps) h rfl rfl m t (by omega) hm2 hps).mono ?_
      rintro e w' ⟨P', v1, v2, v3, rfl, h1, h2, h3, ⟨M4, _, h4⟩, M5, _, h5⟩
      obtain ⟨p4, c4, e4, _⟩ := h4.row
      obtain ⟨p5, c5, e5, _⟩ := h5.row
      rw [two_put] at h1
      exact ⟨P', v1, v2, v3, by rw [if_neg (fun h => hps h.1)], h1, h2, h3, ⟨_, _, _, e4⟩, _, _, _, e5⟩
end

set_option maxRecDepth 100000 in
set_option maxHeartbeats 2000000 in
theorem lives_any (w : World) : Calls Try.prog 14 #[] w fun e w' => e = .returned (.bool true) ∧ Below w.heap.size w w' := by
  have hnew := new_in 9 w (by omega) (by omega)
  have hcv := fun (w : World) (C : Array Value) (n c : Nat) => Lib.run_convert_bytes_const (P := Try.prog) w 28 5 C n c Try.underlying28 Try.underlying5
  obtain ⟨Post, hPost⟩ : ∃ Post : Ending → World → Prop, (fun e w' => e = .returned (.bool true) ∧ Below w.heap.size w w') = Post := ⟨_, rfl⟩
  have HP : Hid (∀ W, Below w.heap.size w W → Post (.returned (.bool true)) W) := fun W hb => by subst hPost; exact ⟨rfl, hb⟩
  rw [hPost]
  clear hPost
  go_enter Try.func14, Try.ntmps14
  go_wp2_with fail
  refine hnew.mono ?_
  intro e w1 hn
  obtain ⟨sb, mb, g, P, rfl, h1⟩ := XS.new hn
  have cP := pair_any h1.st (by omega) (by omega) rfl rfl (by omega)
  have H1 : Hid _ := h1
  clear hnew hn h1
  go_wp2_with fail
  refine cP.mono ?_
  rintro e w2 ⟨rfl, g2, P2, s2, m2⟩
  rw [pair_two] at s2
  have H2 : Hid (XS w P2 w2 sb mb 9 3 g2 (twoT false [])) := H1.out.moves s2 m2
  clear cP s2 m2 H1
  go_wp2_with fail
  have a1 := on_alloc w2 (.cells #[.int .u8 104, .int .u8 105] 5 (2, 3))
  have q2 := H2.out.on a1
  have l2 : ∀ k, P2 k → k < w2.heap.size := fun k hk => H2.out.st.lt hk
  have cS := send2 q2.st (.slice (some ⟨w2.heap.size, 0, none⟩) 2 2) (.slice none 0 0) [104, 105] [] (byt_new w2 [104, 105] (2, 3) 2 (by simp) (fun h7 => by have := l2 _ h7; omega)) (PasO.nil _ _) (by simp) (by simp)
  have e1 : putF 9 [] [104, 105] [] = ([([104, 105], [])], 2, 0) := by simp [putF, total]
  unfold Send2 at cS
  rw [e1] at cS
  have H3 : Hid _ := q2
  clear e1 q2 a1 l2 H2
  refine cS.mono ?_
  rintro e w3 ⟨rfl, P3, s3, m3⟩
  have H4 : Hid (XS w P3 w3 sb mb 9 3 g2 (twoT false [([104, 105], [])])) := H3.out.moves s3 m3
  clear cS H3 s3 m3
  have cR := recv2 H4.out.st 9 0 (by omega)
  have e2 : takeF [([104, 105], ([] : List Ps))] 9 0 = ([], [104, 105], [], []) := by simp [takeF]
  unfold Recv2 at cR
  rw [e2, if_neg (by simp)] at cR
  clear e2
  go_wp2_with fail
  refine cR.mono ?_
  rintro e w4 ⟨P4, v1, v2, v3, rfl, s4, m4, hby, ⟨p2, l2, c2, rfl⟩, p3, l3, c3, rfl⟩
  have H5 : Hid (XS w P4 w4 sb mb 9 3 g2 (twoT false [])) := H4.out.moves s4 m4
  clear cR H4 s4 m4
  obtain ⟨p1, c1, rfl, _, a1⟩ := hby
  have htx : (convert 28 9 (.slice p1 2 c1)).run Try.prog w4 = .ok (.string ⟨#[104, 105]⟩) w4 := text_of (l := [104, 105]) (c := c1) a1.at
  have hl1 : ([104, 105] : List UInt8).length = 2 := rfl
  rw [hl1]
  clear a1 hl1
  have cN := numbers_any H5.out.st
  go_wp2_with fail
  refine cN.mono ?_
  rintro e w5 ⟨rfl, hw5⟩
  subst w5
  have HE := HP.out w4 H5.out.below
  clear cN
  go_wp2
  exact HE

end Go.Proofs.Ytfhkdndgiofidaa.X
