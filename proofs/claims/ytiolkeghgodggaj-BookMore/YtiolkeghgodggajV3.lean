/-
  Of a greater reserve nobody gets less: plain; a literal and what is appended to it.
-/
import Derived.Test.YtiolkeghgodggajV2
namespace Go.Proofs.Ytiolkeghgodggaj.Bo
open Go.RowKit Go.Shelf Go.Sort

namespace Plain
/-- How many rounds there are. -/
def cntR : List Ca → Nat
  | [] => 0
  | c :: l => (if c.kind = 3 then 1 else 0) + cntR l
theorem more_run {b c : Bk} (h : More b c) (hb : Ok b) (hc : Ok c) (l : List Ca) (hk : ∀ x, x ∈ l → x.kind = 2 ∨ x.kind = 3) (hl : b.rounds + cntR l < b.ticks) :
    ∀ k, k < l.length → ((bookF b l).getD k default).grants.length = ((bookF c l).getD k default).grants.length ∧ ∀ j, j < ((bookF b l).getD k default).grants.length → ((bookF b l).getD k default).grants.getD j 0 ≤ ((bookF c l).getD k default).grants.getD j 0 := by
  induction l generalizing b c with
  | nil => intro k hk; simp at hk
  | cons x l ih =>
    have hx := hk x (List.mem_cons_self ..)
    have hk' : ∀ y, y ∈ l → y.kind = 2 ∨ y.kind = 3 := fun y hy => hk y (List.mem_cons_of_mem _ hy)
    by_cases h3 : x.kind = 3
    · have hE1 : caE b x = 0 := by unfold caE; rw [if_pos h3]
      have hE2 : caE c x = 0 := by unfold caE; rw [if_pos h3]
      have e1 : caB b x = roundB b := by unfold caB; rw [hE1, if_neg (by decide), if_pos h3]
      have e2 : caB c x = roundB c := by unfold caB; rw [hE2, if_neg (by decide), if_pos h3]
      have t1 : caT b x = ⟨0, (roundB b).given, reportB b⟩ := by unfold caT; rw [hE1, if_neg (by decide), if_pos h3]
      have t2 : caT c x = ⟨0, (roundB c).given, reportB c⟩ := by unfold caT; rw [hE2, if_neg (by decide), if_pos h3]
      have hcr : cntR (x :: l) = 1 + cntR l := by show (if x.kind = 3 then 1 else 0) + cntR l = _; rw [if_pos h3]
      rw [hcr] at hl
      have hm := h.round hb (by omega)
      have hr : (roundB b).rounds = b.rounds + 1 := by rw [roundB_rounds, Nat.mod_eq_of_lt (by omega)]
      have := ih hm hb.round hc.round hk' (by rw [hr, roundB_ticks]; omega)
      intro k hkl
      show ((caT b x :: bookF (caB b x) l).getD k default).grants.length = ((caT c x :: bookF (caB c x) l).getD k default).grants.length ∧ ∀ j, j < ((caT b x :: bookF (caB b x) l).getD k default).grants.length → ((caT b x :: bookF (caB b x) l).getD k default).grants.getD j 0 ≤ ((caT c x :: bookF (caB c x) l).getD k default).grants.getD j 0
      rw [e1, e2, t1, t2]
      cases k with
      | zero =>
        show (roundB b).given.length = (roundB c).given.length ∧ ∀ j, j < (roundB b).given.length → (roundB b).given.getD j 0 ≤ (roundB c).given.getD j 0
        rw [hb.round.lg, hc.round.lg, hm.n]
        exact ⟨rfl, fun j hj => hm.gi j (by rw [hm.n]; exact hj)⟩
      | succ k => exact this k (by simpa using hkl)
    · have h2 : x.kind = 2 := by rcases hx with y | y <;> omega
      have hm := h.want x h3 (by omega)
      have t1 : (caT b x).grants = [] := by
        unfold caT
        by_cases h0 : caE b x ≠ 0
        · rw [if_pos h0]
        · rw [if_neg h0, if_neg h3]
      have t2 : (caT c x).grants = [] := by
        unfold caT
        by_cases h0 : caE c x ≠ 0
        · rw [if_pos h0]
        · rw [if_neg h0, if_neg h3]
      have hcr : cntR (x :: l) = cntR l := by show (if x.kind = 3 then 1 else 0) + cntR l = _; rw [if_neg h3, Nat.zero_add]
      rw [hcr] at hl
      have hrt : (caB b x).rounds = b.rounds ∧ (caB b x).ticks = b.ticks := by
        unfold caB
        split
        · exact ⟨rfl, rfl⟩
        rw [if_neg (by omega)]
        exact ⟨rfl, rfl⟩
      have := ih hm (hb.step x) (hc.step x) hk' (by rw [hrt.1, hrt.2]; exact hl)
      intro k hkl
      show ((caT b x :: bookF (caB b x) l).getD k default).grants.length = ((caT c x :: bookF (caB c x) l).getD k default).grants.length ∧ ∀ j, j < ((caT b x :: bookF (caB b x) l).getD k default).grants.length → ((caT b x :: bookF (caB b x) l).getD k default).grants.getD j 0 ≤ ((caT c x :: bookF (caB c x) l).getD k default).grants.getD j 0
      cases k with
      | zero =>
        show (caT b x).grants.length = (caT c x).grants.length ∧ ∀ j, j < (caT b x).grants.length → (caT b x).grants.getD j 0 ≤ (caT c x).grants.getD j 0
        rw [t1, t2]
        exact ⟨rfl, fun j hj => by simp at hj⟩
      | succ k => exact this k (by simpa using hkl)
theorem more_law {cap n m : Int} (hc : 0 ≤ cap ∧ cap ≤ 1048576) (hn : 1 ≤ n ∧ n ≤ 400) (hm : n ≤ m ∧ m ≤ 400) (l : List Ca) (hk : ∀ x, x ∈ l → x.kind = 2 ∨ x.kind = 3) (hl : cntR l < 4) :
    ∀ k, k < (⟨1, 0, n⟩ :: l : List Ca).length → ((bookF (Bk.new 3 cap 4) (⟨1, 0, n⟩ :: l)).getD k default).grants.length = ((bookF (Bk.new 3 cap 4) (⟨1, 0, m⟩ :: l)).getD k default).grants.length ∧
      ∀ j, j < ((bookF (Bk.new 3 cap 4) (⟨1, 0, n⟩ :: l)).getD k default).grants.length → ((bookF (Bk.new 3 cap 4) (⟨1, 0, n⟩ :: l)).getD k default).grants.getD j 0 ≤ ((bookF (Bk.new 3 cap 4) (⟨1, 0, m⟩ :: l)).getD k default).grants.getD j 0 := by
  have ok := Ok.new (n := 3) hc (show 0 < 4 by decide)
  have hE1 : caE (Bk.new 3 cap 4) ⟨1, 0, n⟩ = 0 := may_ok (.inl ⟨rfl, hn.1, hn.2⟩) rfl (by show (0 : Int) ≤ _; omega)
  have hE2 : caE (Bk.new 3 cap 4) ⟨1, 0, m⟩ = 0 := may_ok (.inl ⟨rfl, by show 1 ≤ m; omega, hm.2⟩) rfl (by show (0 : Int) ≤ _; omega)
  have e1 : caB (Bk.new 3 cap 4) ⟨1, 0, n⟩ = { Bk.new 3 cap 4 with ever := 0 + n, reserve := 0 + n } := by unfold caB; rw [hE1]; rfl
  have e2 : caB (Bk.new 3 cap 4) ⟨1, 0, m⟩ = { Bk.new 3 cap 4 with ever := 0 + m, reserve := 0 + m } := by unfold caB; rw [hE2]; rfl
  have t1 : (caT (Bk.new 3 cap 4) ⟨1, 0, n⟩).grants = [] := by unfold caT; rw [hE1]; rfl
  have t2 : (caT (Bk.new 3 cap 4) ⟨1, 0, m⟩).grants = [] := by unfold caT; rw [hE2]; rfl
  have z : ∀ i, (Bk.new 3 cap 4).given.getD i 0 = 0 := fun i => zeros_at 3 i
  have hM : More (caB (Bk.new 3 cap 4) ⟨1, 0, n⟩) (caB (Bk.new 3 cap 4) ⟨1, 0, m⟩) := by
    rw [e1, e2]
    exact ⟨rfl, rfl, rfl, rfl, rfl, fun _ => by show 0 + n ≤ 0 + m; omega, fun _ i _ => z i, fun _ i _ => z i, fun e => absurd rfl e, fun e => absurd rfl e, fun e => absurd rfl e, fun i _ => Int.le_refl _⟩
  have hr : (caB (Bk.new 3 cap 4) ⟨1, 0, n⟩).rounds = 0 ∧ (caB (Bk.new 3 cap 4) ⟨1, 0, n⟩).ticks = 4 := by rw [e1]; exact ⟨rfl, rfl⟩
  have := more_run hM (ok.step _) (ok.step _) l hk (by rw [hr.1, hr.2]; omega)
  intro k hkl
  cases k with
  | zero =>
    show (caT (Bk.new 3 cap 4) ⟨1, 0, n⟩).grants.length = (caT (Bk.new 3 cap 4) ⟨1, 0, m⟩).grants.length ∧ ∀ j, j < (caT (Bk.new 3 cap 4) ⟨1, 0, n⟩).grants.length → (caT (Bk.new 3 cap 4) ⟨1, 0, n⟩).grants.getD j 0 ≤ (caT (Bk.new 3 cap 4) ⟨1, 0, m⟩).grants.getD j 0
    rw [t1, t2]
    exact ⟨rfl, fun j hj => by simp at hj⟩
  | succ k => exact this k (by simpa using hkl)
theorem grants_len {cap : Int} {tk : Nat} (hc : 0 ≤ cap ∧ cap ≤ 1048576) (ht : 0 < tk) (l : List Ca) (k : Nat) (hk : k < l.length) : ((bookF (Bk.new 3 cap tk) l).getD k default).grants.length ≤ 3 := by
  rw [bookF_at _ l k hk]
  have ok := (Ok.new (n := 3) hc ht).run (l.take k)
  unfold caT
  split
  · simp
  split
  · show (roundB _).given.length ≤ 3
    rw [ok.round.lg, roundB_n, bkF_n']; exact Nat.le_refl _
  · simp
end Plain
/-- A literal of one call, and what is appended to it. -/
theorem lit_app {w : World} {p : Option Addr} {m c : Nat} {q : List Plain.Ca} (y : Plain.Ca) (hq : encC.Holds w p q) (hm : q.length = m) (hnil : p = none → c = 0) (hb : m ≤ 1000) :
    ∃ p' c' U, (Builtin.append_ #[39, 39] 39 #[.slice (some ⟨w.heap.size, 0, none⟩) 1 1, .slice p m c]).run Try.prog (w.alloc (boxC y)) = .ok (.slice p' (1 + m) c') U ∧ encC.Holds U p' (y :: q) ∧ (p' = none → c' = 0) ∧ Below w.heap.size w U := by
  obtain ⟨j0, ji, jz0, jz1, jz2⟩ := info_parts Try.infoCa
  have bel : Below w.heap.size w (w.alloc (boxC y)) := (Below.refl _ _).alloc (Nat.le_refl _) _
  have hown : (w.alloc (boxC y)).ownsRow w.heap.size 52 3 (.slice (some ⟨w.heap.size, 0, none⟩) 1 1) 1 (encC.vals [y]) :=
    ⟨rfl, .inr ⟨w.heap.size, 1, #[.int .i64 y.kind, .int .i64 y.who, .int .i64 y.count], rfl, Nat.le_refl _, Deep.blk_alloc_new _ _, Nat.le_refl _, by unfold maxLen; omega, rfl, rfl⟩⟩
  obtain ⟨v', U, h1, h2, h3⟩ := encC.app (B := w.heap.size) (n := 1) (l := [y]) (c := c) Try.underlying39 ji jz0 jz1 jz2 rfl hown (hq.grow bel) hm hnil (by omega) (by omega) (Nat.le_trans (Nat.le_refl _) bel.size)
  obtain ⟨p', c', rfl, hh, hn', _⟩ := encC.owns h2 (by simp [hm]; omega)
  exact ⟨p', c', U, h1, hh, hn', bel.grown h3 bel.size (fun j hj => by simp [Value.ownBlock] at hj; omega)⟩
end Go.Proofs.Ytiolkeghgodggaj.Bo
