import PyProof.Rows.All
import KE.OsGo
import KE.OsEnd
import KE.OsArgs
import PySem.Challenge.RW_brokeloop_s02_run
open PySem PySem.W
set_option Elab.async false
/- RUN: one loop over range(n), four running numbers; its word says that they are what the turns taken so far come to. The rest is arithmetic: the turns over Int are the specification's run. -/
namespace Rn
/-- sold in all, lost in all, the water, the broke: what a turn makes of them -/
structure Bal where
  s : Int
  o : Int
  w : Int
  t : Int
def turn (k l b a : Int) (x : Bal) : Bal :=
  let p := Int.fdiv ((a + x.w + x.t) * k) 1000
  let q := Int.fdiv ((a + x.w + x.t - p) * l) 1000
  let u := Int.fdiv (p * b) 1000
  ⟨x.s + (p - u), x.o + q, a + x.w + x.t - p - q, u⟩
def turns (k l b a : Int) (x : Bal) : Nat → Bal
  | 0 => x
  | n + 1 => turn k l b a (turns k l b a x n)

/-! the specification's run, a tick more at its end -/
theorem run_last (p : Kza5.Set_) (a : Nat) : ∀ (n : Nat) (s : Kza5.Loop), Kza5.run p a (n + 1) s
    = ((Kza5.run p a n s).1 + Kza5.sold p (Kza5.run p a n s).2.2 a, (Kza5.run p a n s).2.1 + Kza5.lost p (Kza5.run p a n s).2.2 a, Kza5.next p (Kza5.run p a n s).2.2 a)
  | 0, s => by simp [Kza5.run]
  | n + 1, s => by
    have h := run_last p a n (Kza5.next p s a)
    show (Kza5.sold p s a + (Kza5.run p a (n + 1) (Kza5.next p s a)).1, Kza5.lost p s a + (Kza5.run p a (n + 1) (Kza5.next p s a)).2.1, (Kza5.run p a (n + 1) (Kza5.next p s a)).2.2) = _
    rw [h]
    show _ = (Kza5.sold p s a + (Kza5.run p a n (Kza5.next p s a)).1 + _, Kza5.lost p s a + (Kza5.run p a n (Kza5.next p s a)).2.1 + _, _)
    simp only [Nat.add_assoc]
    rfl
theorem le_part {x y : Nat} (h : y ≤ 1000) : x * y / 1000 ≤ x := by
  have h1 : x * y ≤ x * 1000 := Nat.mul_le_mul (Nat.le_refl _) h
  omega
theorem fdiv_nat (x y : Nat) : Int.fdiv ((x : Int) * (y : Int)) 1000 = ((x * y / 1000 : Nat) : Int) := by
  rw [Int.fdiv_eq_ediv_of_nonneg _ (by decide)]
  omega
/-- a turn over Int is the specification's tick -/
theorem turn_nat {k l b : Nat} (hk : k ≤ 1000) (hl : l ≤ 1000) (hb : b ≤ 1000) (a s o : Nat) (z : Kza5.Loop) :
    turn k l b a ⟨s, o, z.water, z.broke⟩ = ⟨((s + Kza5.sold ⟨k, l, b⟩ z a : Nat) : Int), ((o + Kza5.lost ⟨k, l, b⟩ z a : Nat) : Int), (Kza5.next ⟨k, l, b⟩ z a).water, (Kza5.next ⟨k, l, b⟩ z a).broke⟩ := by
  have e0 : (a : Int) + (z.water : Int) + (z.broke : Int) = ((a + z.water + z.broke : Nat) : Int) := by omega
  simp only [turn, Kza5.sold, Kza5.lost, Kza5.next, Kza5.paper, Kza5.all, e0]
  generalize a + z.water + z.broke = f
  rw [fdiv_nat f k]
  have l1 := le_part (x := f) hk
  generalize f * k / 1000 = p at *
  have e1 : ((f : Int) - (p : Int)) = ((f - p : Nat) : Int) := by omega
  rw [e1, fdiv_nat (f - p) l, fdiv_nat p b]
  have l2 := le_part (x := f - p) hl
  have l3 := le_part (x := p) hb
  generalize (f - p) * l / 1000 = q at *
  generalize p * b / 1000 = u at *
  simp only [Bal.mk.injEq]
  refine ⟨?_, ?_, ?_, trivial⟩ <;> omega
theorem turns_nat {k l b : Nat} (hk : k ≤ 1000) (hl : l ≤ 1000) (hb : b ≤ 1000) (a w r : Nat) : ∀ n : Nat,
    turns k l b a ⟨0, 0, w, r⟩ n = ⟨((Kza5.run ⟨k, l, b⟩ a n ⟨w, r⟩).1 : Nat), ((Kza5.run ⟨k, l, b⟩ a n ⟨w, r⟩).2.1 : Nat), (Kza5.run ⟨k, l, b⟩ a n ⟨w, r⟩).2.2.water, (Kza5.run ⟨k, l, b⟩ a n ⟨w, r⟩).2.2.broke⟩
  | 0 => rfl
  | n + 1 => by
    show turn k l b a (turns k l b a ⟨0, 0, w, r⟩ n) = _
    rw [turns_nat hk hl hb a w r n, turn_nat hk hl hb, run_last]
theorem good_iff {k l b w r a : Nat} : Kza5.good k l b w r a = true ↔ (k ≤ 1000 ∧ l ≤ 1000 ∧ b ≤ 1000) ∧ (w ≤ 1000000 ∧ r ≤ 1000000) ∧ a ≤ 100000 := by
  have e : Kza5.good k l b w r a = ((decide (k ≤ 1000) && decide (l ≤ 1000) && decide (b ≤ 1000)) && (decide (w ≤ 1000000) && decide (r ≤ 1000000)) && decide (a ≤ 100000)) := rfl
  rw [e]
  simp only [Bool.and_eq_true, decide_eq_true_eq]
  omega
theorem spec_run (k l b w r a n : Int) : PyKza5.run k l b w r a n = (Kza5.answer (.run k.toNat l.toNat b.toNat w.toNat r.toNat a.toNat n.toNat)).value :: Kza5Neutral.ints (Kza5.answer (.run k.toNat l.toNat b.toNat w.toNat r.toNat a.toNat n.toNat)).nums := rfl
def Fits (k l b w r a n : Int) : Prop := ((k ≤ 1000 ∧ l ≤ 1000 ∧ b ≤ 1000) ∧ (w ≤ 1000000 ∧ r ≤ 1000000) ∧ a ≤ 100000) ∧ n ≤ 1000
theorem run_bad {k l b w r a n : Int} (h : ¬ Fits k l b w r a n) : PyKza5.run k l b w r a n = [-22] := by
  have g : Kza5.good k.toNat l.toNat b.toNat w.toNat r.toNat a.toNat = false ∨ Kza5.ticks < n.toNat := by
    cases e : Kza5.good k.toNat l.toNat b.toNat w.toNat r.toNat a.toNat with
    | false => exact Or.inl rfl
    | true =>
      have := good_iff.mp e
      refine Or.inr ?_
      simp only [Fits, Kza5.ticks] at *
      omega
  rw [spec_run]
  simp only [Kza5.answer, if_pos g, Kza1.say]
  rfl
theorem run_good {k l b w r a n : Int} (k0 : 0 ≤ k) (l0 : 0 ≤ l) (b0 : 0 ≤ b) (w0 : 0 ≤ w) (r0 : 0 ≤ r) (a0 : 0 ≤ a) (n0 : 0 ≤ n) (h : Fits k l b w r a n)
    {x : Bal} (hx : x = turns k l b a ⟨0, 0, w, r⟩ n.toNat) : PyKza5.run k l b w r a n = [x.s, x.o, x.w, x.t] := by
  obtain ⟨k, rfl⟩ := Int.eq_ofNat_of_zero_le k0
  obtain ⟨l, rfl⟩ := Int.eq_ofNat_of_zero_le l0
  obtain ⟨b, rfl⟩ := Int.eq_ofNat_of_zero_le b0
  obtain ⟨w, rfl⟩ := Int.eq_ofNat_of_zero_le w0
  obtain ⟨r, rfl⟩ := Int.eq_ofNat_of_zero_le r0
  obtain ⟨a, rfl⟩ := Int.eq_ofNat_of_zero_le a0
  obtain ⟨n, rfl⟩ := Int.eq_ofNat_of_zero_le n0
  obtain ⟨hg, hn⟩ := h
  have hg' : (k ≤ 1000 ∧ l ≤ 1000 ∧ b ≤ 1000) ∧ (w ≤ 1000000 ∧ r ≤ 1000000) ∧ a ≤ 100000 := by omega
  have g : ¬ (Kza5.good k l b w r a = false ∨ Kza5.ticks < n) := by
    rw [good_iff.mpr hg']
    intro c
    cases c with
    | inl c => exact absurd c (by decide)
    | inr c =>
      simp only [Kza5.ticks] at c
      omega
  rw [Int.toNat_natCast, turns_nat hg'.1.1 hg'.1.2.1 hg'.1.2.2] at hx
  subst hx
  rw [spec_run]
  simp only [Int.toNat_natCast, Kza5.answer, if_neg g]
  rfl
/-- the loop's word: of the turns taken so far the four running numbers are what they come to -/
structure Told (k l b w r a : Int) (pre : List Int) (s o x y : Int) : Prop where
  eq : turns k l b a ⟨0, 0, w, r⟩ pre.length = ⟨s, o, x, y⟩
theorem start (k l b w r a : Int) : Told k l b w r a [] 0 0 w r := ⟨rfl⟩
theorem more {k l b w r a s o x y v : Int} {pre : List Int} (h : Told k l b w r a pre s o x y) :
    Told k l b w r a (pre ++ [v]) (s + (Int.fdiv ((a + x + y) * k) 1000 - Int.fdiv (Int.fdiv ((a + x + y) * k) 1000 * b) 1000))
      (o + Int.fdiv ((a + x + y - Int.fdiv ((a + x + y) * k) 1000) * l) 1000)
      (a + x + y - Int.fdiv ((a + x + y) * k) 1000 - Int.fdiv ((a + x + y - Int.fdiv ((a + x + y) * k) 1000) * l) 1000)
      (Int.fdiv (Int.fdiv ((a + x + y) * k) 1000 * b) 1000) := by
  have e : (pre ++ [v]).length = pre.length + 1 := by simp
  refine ⟨?_⟩
  rw [e]
  show turn k l b a (turns k l b a ⟨0, 0, w, r⟩ pre.length) = _
  rw [h.eq]
  rfl
theorem inside {lo hi x : Int} {cs : List Codec} {y : Codec.denoteAll cs} (h : Codec.withinAll (Codec.int lo hi :: cs) (x, y) = true) : lo ≤ x ∧ x ≤ hi ∧ Codec.withinAll cs y = true := by
  have h1 : (Codec.inInt lo hi x && Codec.withinAll cs y) = true := h
  unfold Codec.inInt at h1
  simp only [Bool.and_eq_true, decide_eq_true_eq] at h1
  exact ⟨h1.1.1, h1.1.2, h1.2⟩
theorem said : PySem.Challenge.rw_brokeloop_s02_run.wellSaid = true := by decide +kernel
theorem whole {k l b w r a s o x y n : Int} {m : Nat} (h : Told k l b w r a (rangeKs 0 m) s o x y) (e : m = n.toNat) :
    (⟨s, o, x, y⟩ : Bal) = turns k l b a ⟨0, 0, w, r⟩ n.toNat := by
  have h1 := h.eq
  rw [rangeKs_length, e] at h1
  exact h1.symm
/-- a whole number's bounds off a request, and the rest of the request -/
theorem asked_int {lo hi x : Int} {cs : List Codec} {ds : List WData} (h : (Codec.decAll (.int lo hi :: cs) (.int x :: ds)).isSome = true) :
    lo ≤ x ∧ x ≤ hi ∧ (Codec.decAll cs ds).isSome = true := by
  have e : Codec.decAll (.int lo hi :: cs) (.int x :: ds) = Codec.both Prod.mk (if Codec.inInt lo hi x = true then some x else none) (Codec.decAll cs ds) := rfl
  rw [e] at h
  cases h1 : Codec.inInt lo hi x with
  | false =>
    rw [h1] at h
    cases h
  | true =>
    cases h2 : Codec.decAll cs ds with
    | none =>
      rw [h1, h2] at h
      cases h
    | some r =>
      unfold Codec.inInt at h1
      simp only [Bool.and_eq_true, decide_eq_true_eq] at h1
      exact ⟨h1.1, h1.2, rfl⟩
theorem bounds {k l b w r a n : Int} (h : OpenSpec.pre PySem.Challenge.rw_brokeloop_s02_run [.int k, .int l, .int b, .int w, .int r, .int a, .int n] = true) :
    (0 ≤ k ∧ 0 ≤ l ∧ 0 ≤ b) ∧ (0 ≤ w ∧ 0 ≤ r ∧ 0 ≤ a) ∧ 0 ≤ n := by
  have h := os_pre_isSome h
  obtain ⟨k0, _, h⟩ := asked_int h
  obtain ⟨l0, _, h⟩ := asked_int h
  obtain ⟨b0, _, h⟩ := asked_int h
  obtain ⟨w0, _, h⟩ := asked_int h
  obtain ⟨r0, _, h⟩ := asked_int h
  obtain ⟨a0, _, h⟩ := asked_int h
  obtain ⟨n0, _, h⟩ := asked_int h
  exact ⟨⟨k0, l0, b0⟩, ⟨w0, r0, a0⟩, n0⟩
section
open PyProof.Rows
variable {prog : Program} {w : World} {A : Around} {E : Value → Shared → Prop} {s : Shared} {h₀ : Heap} {L : Addr} {m : Str → Option Value} {news : List (Addr × Obj)} {a b c : Int} {t u x : Tok} {Q : Value → Shared → Prop}
/-- the greatest of three numbers as a letter and what it is -/
theorem max3 (hh : A.handled = none) (F : Fr h₀ L s.heap m) (N : News h₀ L s.heap news)
    (h : ∀ (g : Int) (y : Tok) (h' : Heap) (tk : Nat), Fr h₀ L h' m → News h₀ L h' news → a ≤ g → b ≤ g → c ≤ g → (g = a ∨ g = b ∨ g = c) → Q (.int g y) { s with heap := h', toks := tk }) :
    wpAny (model prog w) A (call (.builtin "max") [.int a t, .int b u, .int c x]) Q E s := by
  refine max_three_ints hh fun h' tk hk => ?_
  have F' := F.grownK hk
  have N' := N.grown hk
  split
  · split
    · exact h _ _ _ _ F' N' (by omega) (by omega) (by omega) (by omega)
    · exact h _ _ _ _ F' N' (by omega) (by omega) (by omega) (by omega)
  · split
    · exact h _ _ _ _ F' N' (by omega) (by omega) (by omega) (by omega)
    · exact h _ _ _ _ F' N' (by omega) (by omega) (by omega) (by omega)
/-- of two -/
theorem max2 (hh : A.handled = none) (F : Fr h₀ L s.heap m) (N : News h₀ L s.heap news)
    (h : ∀ (g : Int) (y : Tok) (h' : Heap) (tk : Nat), Fr h₀ L h' m → News h₀ L h' news → a ≤ g → b ≤ g → (g = a ∨ g = b) → Q (.int g y) { s with heap := h', toks := tk }) :
    wpAny (model prog w) A (call (.builtin "max") [.int a t, .int b u]) Q E s := by
  refine max_two_ints hh fun h' tk hk => ?_
  have F' := F.grownK hk
  have N' := N.grown hk
  split
  · exact h _ _ _ _ F' N' (by omega) (by omega) (by omega)
  · exact h _ _ _ _ F' N' (by omega) (by omega) (by omega)
end
end Rn
local macro_rules | `(tactic| walk_at "call builtin:max") => `(tactic| (k_here; (with_reducible show wpAny _ _ (call (Value.builtin _) [Value.int _ _, Value.int _ _, Value.int _ _]) _ _ _); (with_unfolding_all refine' Rn.max3 ?k0 ?k1 ?k2 ?_; (case k0 => with_unfolding_all rfl); (case k1 => k_asm); (case k2 => k_asm); k_whole); intro g' y' h' tk' F' N' m1 m2 m3 m4))
local macro_rules | `(tactic| walk_at "call builtin:max") => `(tactic| (k_here; (with_reducible show wpAny _ _ (call (Value.builtin _) [Value.int _ _, Value.int _ _]) _ _ _); (with_unfolding_all refine' Rn.max2 ?k0 ?k1 ?k2 ?_; (case k0 => with_unfolding_all rfl); (case k1 => k_asm); (case k2 => k_asm); k_whole); intro g' y' h' tk' F' N' m1 m2 m3))
set_option maxRecDepth 100000 in
set_option maxHeartbeats 8000000 in
theorem PySem.Challenge.cw_brokeloop_s02_run_holds : PySem.Challenge.rw_brokeloop_s02_run.Holds := by
  k_with "state" => first
    | exact Rn.start _ _ _ _ _ _
    | exact Rn.more (by assumption)
  k_with "pyIter ref" => ((rename OpenSpec.pre _ _ = true => hq); (have hb := Rn.bounds hq); (obtain ⟨⟨k0, l0, b0⟩, ⟨w0, r0, a0⟩, n0⟩ := hb); k_state_given ["keep", "lose", "broke", "w", "r", "a"] (fun k l b w r a pre s o x y => Rn.Told k l b w r a pre s o x y) "sold" "lost" "water" "torn")
  open_ks with [.int 0, .int 0, .int 0, .int 0, .int 0, .int 0, .int 0]
  all_goals
    os_open Rn.said with args win asked e
    obtain ⟨k, l, b, w, r, a, n, u⟩ := args
    obtain ⟨d1, e⟩ := List.cons.inj e
    obtain ⟨d2, e⟩ := List.cons.inj e
    obtain ⟨d3, e⟩ := List.cons.inj e
    obtain ⟨d4, e⟩ := List.cons.inj e
    obtain ⟨d5, e⟩ := List.cons.inj e
    obtain ⟨d6, e⟩ := List.cons.inj e
    obtain ⟨d7, e⟩ := List.cons.inj e
    have d1 := os_j_int d1
    have d2 := os_j_int d2
    have d3 := os_j_int d3
    have d4 := os_j_int d4
    have d5 := os_j_int d5
    have d6 := os_j_int d6
    have d7 := os_j_int d7
    subst d1 d2 d3 d4 d5 d6 d7
    obtain ⟨k0, _, win⟩ := Rn.inside win
    obtain ⟨l0, _, win⟩ := Rn.inside win
    obtain ⟨b0, _, win⟩ := Rn.inside win
    obtain ⟨w0, _, win⟩ := Rn.inside win
    obtain ⟨r0, _, win⟩ := Rn.inside win
    obtain ⟨a0, _, win⟩ := Rn.inside win
    obtain ⟨n0, _, win⟩ := Rn.inside win
    show ofPy (PyData.list _) = WData.list (List.map WData.int (PyKza5.run _ _ _ _ _ _ _))
    refine os_list ?_
    dsimp only
    first
    | (rw [Rn.run_bad (by simp only [Rn.Fits]; omega)]; rfl)
    | (rw [Rn.run_good k0 l0 b0 w0 r0 a0 n0 (by simp only [Rn.Fits]; omega) (Rn.whole kInv (by first | rfl | omega))]; rfl)
#print axioms PySem.Challenge.cw_brokeloop_s02_run_holds
