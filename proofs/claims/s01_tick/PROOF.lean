import PyProof.Rows.All
import KE.OsGo
import KE.OsEnd
import KE.OsArgs
import PySem.Challenge.RW_brokeloop_s01_tick
open PySem PySem.W
set_option Elab.async false
/- TICK: no loop; max of three and of two is handed on as a letter (max3, max2); the walk goes through by itself and leaves a goal a way. Bl is the arithmetic: the specification's tick over Int. -/
namespace Bl
/-- so many thousandths, rounded down -/
def part (x y : Int) : Int := x * y / 1000
theorem part_nat (x y : Nat) : part x y = ((x * y / 1000 : Nat) : Int) := by
  simp only [part]; omega
theorem part_fdiv (x y : Int) : Int.fdiv (x * y) 1000 = part x y := Int.fdiv_eq_ediv_of_nonneg _ (by decide)
theorem part_le {x y : Nat} (h : y ≤ 1000) : x * y / 1000 ≤ x := by
  have h1 : x * y ≤ x * 1000 := Nat.mul_le_mul (Nat.le_refl _) h
  omega
theorem good_iff {k l b w r a : Nat} : Kza5.good k l b w r a = true ↔ (k ≤ 1000 ∧ l ≤ 1000 ∧ b ≤ 1000) ∧ (w ≤ 1000000 ∧ r ≤ 1000000) ∧ a ≤ 100000 := by
  have e : Kza5.good k l b w r a = ((decide (k ≤ 1000) && decide (l ≤ 1000) && decide (b ≤ 1000)) && (decide (w ≤ 1000000) && decide (r ≤ 1000000)) && decide (a ≤ 100000)) := rfl
  rw [e]
  simp only [Bool.and_eq_true, decide_eq_true_eq]
  omega
theorem tick_bad {k l b w r a : Int} (h : ¬ ((k ≤ 1000 ∧ l ≤ 1000 ∧ b ≤ 1000) ∧ (w ≤ 1000000 ∧ r ≤ 1000000) ∧ a ≤ 100000)) : PyKza5.tick k l b w r a = [-22] := by
  have g : Kza5.good k.toNat l.toNat b.toNat w.toNat r.toNat a.toNat = false := by
    cases e : Kza5.good k.toNat l.toNat b.toNat w.toNat r.toNat a.toNat with
    | false => rfl
    | true =>
      have := good_iff.mp e
      omega
  show (Kza5.answer (.tick k.toNat l.toNat b.toNat w.toNat r.toNat a.toNat)).value :: Kza5Neutral.ints (Kza5.answer (.tick k.toNat l.toNat b.toNat w.toNat r.toNat a.toNat)).nums = [-22]
  simp only [Kza5.answer, g, if_true, Kza1.say]
  rfl
theorem tick_good {k l b w r a : Nat} (h : (k ≤ 1000 ∧ l ≤ 1000 ∧ b ≤ 1000) ∧ (w ≤ 1000000 ∧ r ≤ 1000000) ∧ a ≤ 100000) {F P L T : Int} (hF : F = a + w + r) (hP : P = part F k) (hL : L = part (F - P) l) (hT : T = part P b) :
    PyKza5.tick k l b w r a = [P - T, L, F - P - L, T] := by
  have g := good_iff.mpr h
  show (Kza5.answer (.tick (k : Int).toNat (l : Int).toNat (b : Int).toNat (w : Int).toNat (r : Int).toNat (a : Int).toNat)).value :: Kza5Neutral.ints (Kza5.answer (.tick (k : Int).toNat (l : Int).toNat (b : Int).toNat (w : Int).toNat (r : Int).toNat (a : Int).toNat)).nums = _
  simp only [Int.toNat_natCast, Kza5.answer, g, Bool.true_eq_false, if_false, Kza5Neutral.ints, List.map_cons, List.map_nil, Kza5.next, Kza5.sold, Kza5.lost, Kza5.paper, Kza5.all]
  have eF : F = ((a + w + r : Nat) : Int) := by omega
  subst eF
  rw [part_nat] at hP
  have l1 := part_le (x := a + w + r) h.1.1
  subst hP
  have e1 : (((a + w + r : Nat) : Int) - (((a + w + r) * k / 1000 : Nat) : Int)) = ((a + w + r - (a + w + r) * k / 1000 : Nat) : Int) := by omega
  rw [e1, part_nat] at hL
  rw [part_nat] at hT
  have l2 := part_le (x := a + w + r - (a + w + r) * k / 1000) h.1.2.1
  have l3 := part_le (x := (a + w + r) * k / 1000) h.1.2.2
  subst hL hT
  simp only [List.cons.injEq, and_true]
  generalize (a + w + r) * k / 1000 = p at *
  generalize (a + w + r - p) * l / 1000 = q at *
  generalize p * b / 1000 = t at *
  refine ⟨?_, trivial, ?_⟩ <;> omega
theorem tick_goodI {k l b w r a : Int} (k0 : 0 ≤ k) (l0 : 0 ≤ l) (b0 : 0 ≤ b) (w0 : 0 ≤ w) (r0 : 0 ≤ r) (a0 : 0 ≤ a)
    (h : (k ≤ 1000 ∧ l ≤ 1000 ∧ b ≤ 1000) ∧ (w ≤ 1000000 ∧ r ≤ 1000000) ∧ a ≤ 100000) {F P L T : Int} (hF : F = a + w + r) (hP : P = part F k) (hL : L = part (F - P) l) (hT : T = part P b) :
    PyKza5.tick k l b w r a = [P - T, L, F - P - L, T] := by
  obtain ⟨k, rfl⟩ := Int.eq_ofNat_of_zero_le k0
  obtain ⟨l, rfl⟩ := Int.eq_ofNat_of_zero_le l0
  obtain ⟨b, rfl⟩ := Int.eq_ofNat_of_zero_le b0
  obtain ⟨w, rfl⟩ := Int.eq_ofNat_of_zero_le w0
  obtain ⟨r, rfl⟩ := Int.eq_ofNat_of_zero_le r0
  obtain ⟨a, rfl⟩ := Int.eq_ofNat_of_zero_le a0
  exact tick_good (by omega) hF hP hL hT
theorem inside {lo hi x : Int} {cs : List Codec} {y : Codec.denoteAll cs} (h : Codec.withinAll (Codec.int lo hi :: cs) (x, y) = true) : lo ≤ x ∧ x ≤ hi ∧ Codec.withinAll cs y = true := by
  have h1 : (Codec.inInt lo hi x && Codec.withinAll cs y) = true := h
  unfold Codec.inInt at h1
  simp only [Bool.and_eq_true, decide_eq_true_eq] at h1
  exact ⟨h1.1.1, h1.1.2, h1.2⟩
theorem said : PySem.Challenge.rw_brokeloop_s01_tick.wellSaid = true := by decide +kernel
section
open PyProof.Rows
variable {prog : Program} {w : World} {A : Around} {E : Value → Shared → Prop} {s : Shared} {h₀ : Heap} {L : Addr} {m : Str → Option Value} {news : List (Addr × Obj)} {a b c : Int} {t u x : Tok} {Q : Value → Shared → Prop}
/-- the greatest of three numbers as a letter and what it is -/
theorem max3 (hh : A.handled = none) (F : Fr h₀ L s.heap m) (N : News h₀ L s.heap news)
    (h : ∀ (g : Int) (y : Tok) (h' : Heap) (tk : Nat), Fr h₀ L h' m → News h₀ L h' news → a ≤ g → b ≤ g → c ≤ g → (g = a ∨ g = b ∨ g = c) → Q (.int g y) { s with heap := h', toks := tk }) :
    wpAny (model prog w) A (call (.builtin "max") [.int a t, .int b u, .int c x]) Q E s := by
  refine max_three_ints hh fun h' tk hk => ?_
  have F' := F.grownK hk
  have N' := N.grown hk
  split
  · split
    · exact h _ _ _ _ F' N' (by omega) (by omega) (by omega) (by omega)
    · exact h _ _ _ _ F' N' (by omega) (by omega) (by omega) (by omega)
  · split
    · exact h _ _ _ _ F' N' (by omega) (by omega) (by omega) (by omega)
    · exact h _ _ _ _ F' N' (by omega) (by omega) (by omega) (by omega)
/-- of two -/
theorem max2 (hh : A.handled = none) (F : Fr h₀ L s.heap m) (N : News h₀ L s.heap news)
    (h : ∀ (g : Int) (y : Tok) (h' : Heap) (tk : Nat), Fr h₀ L h' m → News h₀ L h' news → a ≤ g → b ≤ g → (g = a ∨ g = b) → Q (.int g y) { s with heap := h', toks := tk }) :
    wpAny (model prog w) A (call (.builtin "max") [.int a t, .int b u]) Q E s := by
  refine max_two_ints hh fun h' tk hk => ?_
  have F' := F.grownK hk
  have N' := N.grown hk
  split
  · exact h _ _ _ _ F' N' (by omega) (by omega) (by omega)
  · exact h _ _ _ _ F' N' (by omega) (by omega) (by omega)
end
end Bl
local macro_rules | `(tactic| walk_at "call builtin:max") => `(tactic| (k_here; (with_reducible show wpAny _ _ (call (Value.builtin _) [Value.int _ _, Value.int _ _, Value.int _ _]) _ _ _); (with_unfolding_all refine' Bl.max3 ?k0 ?k1 ?k2 ?_; (case k0 => with_unfolding_all rfl); (case k1 => k_asm); (case k2 => k_asm); k_whole); intro g' y' h' tk' F' N' m1 m2 m3 m4))
local macro_rules | `(tactic| walk_at "call builtin:max") => `(tactic| (k_here; (with_reducible show wpAny _ _ (call (Value.builtin _) [Value.int _ _, Value.int _ _]) _ _ _); (with_unfolding_all refine' Bl.max2 ?k0 ?k1 ?k2 ?_; (case k0 => with_unfolding_all rfl); (case k1 => k_asm); (case k2 => k_asm); k_whole); intro g' y' h' tk' F' N' m1 m2 m3))
set_option maxRecDepth 100000 in
set_option maxHeartbeats 8000000 in
theorem PySem.Challenge.cw_brokeloop_s01_tick_holds : PySem.Challenge.rw_brokeloop_s01_tick.Holds := by
  open_ks with [.int 0, .int 0, .int 0, .int 0, .int 0, .int 0]
  all_goals
    os_open Bl.said with args win asked e
    obtain ⟨k, l, b, w, r, a, u⟩ := args
    obtain ⟨d1, e⟩ := List.cons.inj e
    obtain ⟨d2, e⟩ := List.cons.inj e
    obtain ⟨d3, e⟩ := List.cons.inj e
    obtain ⟨d4, e⟩ := List.cons.inj e
    obtain ⟨d5, e⟩ := List.cons.inj e
    obtain ⟨d6, e⟩ := List.cons.inj e
    have d1 := os_j_int d1
    have d2 := os_j_int d2
    have d3 := os_j_int d3
    have d4 := os_j_int d4
    have d5 := os_j_int d5
    have d6 := os_j_int d6
    subst d1 d2 d3 d4 d5 d6
    obtain ⟨k0, _, win⟩ := Bl.inside win
    obtain ⟨l0, _, win⟩ := Bl.inside win
    obtain ⟨b0, _, win⟩ := Bl.inside win
    obtain ⟨w0, _, win⟩ := Bl.inside win
    obtain ⟨r0, _, win⟩ := Bl.inside win
    obtain ⟨a0, _, win⟩ := Bl.inside win
    show ofPy (PyData.list _) = WData.list (List.map WData.int (PyKza5.tick _ _ _ _ _ _))
    refine os_list ?_
    dsimp only
    first
    | (rw [Bl.tick_bad (by omega)]; rfl)
    | (rw [Bl.tick_goodI (F := _) k0 l0 b0 w0 r0 a0 (by omega) rfl (Bl.part_fdiv _ _) (Bl.part_fdiv _ _) (Bl.part_fdiv _ _)]; rfl)
#print axioms PySem.Challenge.cw_brokeloop_s01_tick_holds
