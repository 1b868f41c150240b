/-
  What is parsed is no longer than its tokens; Parse's contract in one shape.
-/
import Derived.Test.YtkedifhlkiffoaaDoorPQ
import Derived.Test.YtkedifhlkiffoaaDoorLU
namespace Go.Proofs.YtkedifhlkiffoaaDoor
open Go.ChangeShapes Go.WideShapes Go.ChangeAt Go.RowKit
open Tree (Tm Cp Sp)
set_option linter.unusedVariables false
set_option linter.unusedSimpArgs false
theorem cmpsF_len {ts : List (Tk × Nat)} : ∀ (f k : Nat) (x : List Cp × Nat), cmpsF ts f k = .ok x → x.1.length ≤ f := by
  intro f
  induction f with
  | zero => intro k x h; cases h
  | succ f ih =>
    intro k x h
    unfold cmpsF at h
    cases h1 : cmpP ts k with
    | error j => rw [h1] at h; cases h
    | ok y1 =>
    simp only [h1] at h
    split at h
    · cases h2 : cmpsF ts f (y1.2 + 1) with
      | error j => rw [h2] at h; cases h
      | ok y2 =>
      simp only [h2] at h
      have g2 := ih _ _ h2
      cases h
      simp
      omega
    · cases h2 : mustP ts 5 93 y1.2 with
      | error j => rw [h2] at h; cases h
      | ok y2 =>
      simp only [h2] at h
      cases h
      simp
theorem step_cs {ts : List (Tk × Nat)} {i : Int} {strict : Bool} {k : Nat} {x : Sp × Nat} (h : stepP ts i strict k = .ok x) : x.1.cs.length ≤ ts.length := by
  unfold stepP at h
  cases h1 : oneP ts 1 (mayK ts 33 k) with
  | error j => rw [h1] at h; cases h
  | ok y1 =>
  simp only [h1] at h
  cases h2 : mustP ts 2 i y1.2 with
  | error j => rw [h2] at h; cases h
  | ok y2 =>
  simp only [h2] at h
  cases h3 : timesP ts y2.2 with
  | error j => rw [h3] at h; cases h
  | ok y3 =>
  simp only [h3] at h
  cases h4 : listP ts y3.2 with
  | error j => rw [h4] at h; cases h
  | ok y4 =>
  simp only [h4] at h
  cases h
  unfold listP at h4
  split at h4
  · exact cmpsF_len _ _ _ h4
  · cases h4; simp
theorem patF_len {ts : List (Tk × Nat)} : ∀ (f i : Nat) (strict : Bool) (k : Nat) (x : List Sp × Int), patF ts f i strict k = .ok x → x.1.length ≤ f ∧ ∀ s ∈ x.1, s.cs.length ≤ ts.length := by
  intro f
  induction f with
  | zero => intro i s k x h; cases h
  | succ f ih =>
    intro i s k x h
    unfold patF at h
    cases h1 : stepP ts i s k with
    | error j => rw [h1] at h; cases h
    | ok y1 =>
    simp only [h1] at h
    have g1 := step_cs h1
    split at h
    · cases h2 : patF ts f (i + 1) (mayP ts 5 44 y1.2) (y1.2 + 1) with
      | error j => rw [h2] at h; cases h
      | ok y2 =>
      simp only [h2] at h
      have g2 := ih _ _ _ _ h2
      cases h
      refine ⟨by simp; omega, fun s hs => ?_⟩
      rcases List.mem_cons.1 hs with rfl | hs
      · exact g1
      · exact g2.2 s hs
    · cases h2 : endP ts y1.2 with
      | error j => rw [h2] at h; cases h
      | ok y2 =>
      simp only [h2] at h
      cases h
      refine ⟨by simp, fun s hs => ?_⟩
      obtain rfl := List.mem_singleton.1 hs
      exact g1
theorem patP_short {ts : List (Tk × Nat)} {ss : List Sp} {win : Int} (h : patP ts = .ok (ss, win)) (hn : ts.length ≤ 4000) {L : List (Sp × Value)} (hL : L.map (·.1) = ss) : Tree.Short L := by
  obtain ⟨h1, h2⟩ := patF_len _ _ _ _ _ h
  have hl : L.length = ss.length := by rw [← hL]; simp
  simp only at h1 h2
  refine ⟨by omega, fun x hx => ?_⟩
  have := h2 x.1 (by rw [← hL]; exact List.mem_map.2 ⟨x, hx, rfl⟩)
  omega
/-- What Parse tells of good tokens, in one shape. -/
def OutP (ts : List (Tk × Nat)) (L : List (Sp × Value)) (win at_ er : Int) : Prop :=
  (patP ts = .ok (L.map (·.1), win) ∧ at_ = 0 ∧ er = 0) ∨ ∃ j x, patP ts = .error j ∧ ts[j]? = some x ∧ L = [] ∧ win = 0 ∧ at_ = x.2 ∧ er = 90
theorem OutP.short {ts : List (Tk × Nat)} {L : List (Sp × Value)} {win at_ er : Int} (h : OutP ts L win at_ er) (hn : ts.length ≤ 4000) : Tree.Short L := by
  rcases h with ⟨h, -, -⟩ | ⟨j, x, -, -, rfl, -⟩
  · exact patP_short h hn rfl
  · exact ⟨by simp, fun x hx => by cases hx⟩
theorem parse_u (l : Bs) (w : World) (hl : l.length ≤ 2000) (ho : OpsAt w) (h6 : ∀ x ∈ toks l, x.1.k ≠ 6) :
    Calls Tryd.prog 14 #[S l] w fun e w' => ∃ a c L win at_ er, Below w.heap.size w w' ∧ e = .returned (.tuple #[.agg #[.slice a (List.length L) c, .int .i64 win], .int .i64 at_, .int .i64 er]) ∧ Tree.SpsL w' (.slice a (List.length L) c) L ∧ OutP (toks l) L win at_ er ∧ ∀ (Y : World) (row : Option Nat), w'.grownBy Y row → (∀ q, row = some q → q < w.heap.size) → Tree.SpsL Y (.slice a (List.length L) c) L := by
  obtain ⟨hE, h0⟩ := toks_ends l h6
  refine (parse_toks l w hl ho h6 hE (by have := toks_le l; omega) h0).mono ?_
  rintro e w' ⟨hb, hm⟩
  cases hp : patP (toks l) with
  | ok p =>
    rw [hp] at hm
    obtain ⟨v, L, rfl, hO, hL⟩ := hm
    obtain ⟨a, c, rfl⟩ := hO.sps.lit rfl
    exact ⟨a, c, L, p.2, 0, 0, hb, rfl, hO.sps, .inl ⟨by rw [hp, hL], rfl, rfl⟩, fun Y row h1 h2 => (hO.kept h1 h2).sps⟩
  | error j =>
    rw [hp] at hm
    obtain ⟨x, hx, rfl⟩ := hm
    exact ⟨none, 0, [], 0, x.2, 90, hb, rfl, ⟨⟨none, 0, rfl, .inl rfl⟩, fun x hx => by cases hx⟩, .inr ⟨j, x, hp, hx, rfl, rfl, rfl, rfl⟩, fun _ _ _ _ => ⟨⟨none, 0, rfl, .inl rfl⟩, fun x hx => by cases hx⟩⟩
end Go.Proofs.YtkedifhlkiffoaaDoor
