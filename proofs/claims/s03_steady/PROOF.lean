import PyProof.Rows.All
import KE.OsGo
import KE.OsEnd
import KE.OsArgs
import PySem.Challenge.RW_brokeloop_s03_steady
open PySem PySem.W
set_option Elab.async false
/- STEADY: one loop over range(1000) that hands back as soon as a tick leaves the water and the broke as they are. Its word says that what is due from an empty loop is what is due from here. The rest is arithmetic: a tick over Int is the specification's. -/
namespace Sd
/-- what a tick leaves in the water, in the broke, and what it sells and loses, from the water and the broke ahead of it -/
def paper (k a x y : Int) : Int := Int.fdiv ((a + x + y) * k) 1000
def lost (k l a x y : Int) : Int := Int.fdiv ((a + x + y - paper k a x y) * l) 1000
def torn (k b a x y : Int) : Int := Int.fdiv (paper k a x y * b) 1000
def water (k l a x y : Int) : Int := a + x + y - paper k a x y - lost k l a x y
def sold (k b a x y : Int) : Int := paper k a x y - torn k b a x y
def set (k l b : Int) : Kza5.Set_ := ⟨k.toNat, l.toNat, b.toNat⟩
def loop (x y : Int) : Kza5.Loop := ⟨x.toNat, y.toNat⟩
structure Fits (k l b a : Int) : Prop where
  k0 : 0 ≤ k
  l0 : 0 ≤ l
  b0 : 0 ≤ b
  a0 : 0 ≤ a
  k1 : k ≤ 1000
  l1 : l ≤ 1000
  b1 : b ≤ 1000
  a1 : a ≤ 100000
theorem le_part {x y : Nat} (h : y ≤ 1000) : x * y / 1000 ≤ x := by
  have h1 : x * y ≤ x * 1000 := Nat.mul_le_mul (Nat.le_refl _) h
  omega
theorem fdiv_nat (x y : Nat) : Int.fdiv ((x : Int) * (y : Int)) 1000 = ((x * y / 1000 : Nat) : Int) := by
  rw [Int.fdiv_eq_ediv_of_nonneg _ (by decide)]
  omega
/-- a tick over Int is the specification's -/
theorem tick_nat {k l b : Nat} (hk : k ≤ 1000) (hl : l ≤ 1000) (hb : b ≤ 1000) (a : Nat) (z : Kza5.Loop) :
    water k l a z.water z.broke = (Kza5.next ⟨k, l, b⟩ z a).water ∧ torn k b a z.water z.broke = (Kza5.next ⟨k, l, b⟩ z a).broke
    ∧ sold k b a z.water z.broke = (Kza5.sold ⟨k, l, b⟩ z a : Nat) ∧ lost k l a z.water z.broke = (Kza5.lost ⟨k, l, b⟩ z a : Nat) := by
  have e0 : (a : Int) + (z.water : Int) + (z.broke : Int) = ((a + z.water + z.broke : Nat) : Int) := by omega
  simp only [water, torn, sold, lost, paper, Kza5.sold, Kza5.lost, Kza5.next, Kza5.paper, Kza5.all, e0]
  generalize a + z.water + z.broke = f
  rw [fdiv_nat f k]
  have l1 := le_part (x := f) hk
  generalize f * k / 1000 = p at *
  have e1 : ((f : Int) - (p : Int)) = ((f - p : Nat) : Int) := by omega
  rw [e1, fdiv_nat (f - p) l, fdiv_nat p b]
  have l2 := le_part (x := f - p) hl
  have l3 := le_part (x := p) hb
  generalize (f - p) * l / 1000 = q at *
  generalize p * b / 1000 = u at *
  refine ⟨?_, rfl, ?_, rfl⟩ <;> omega
/-- the same from whole numbers: what the specification's tick leaves, sells and loses -/
theorem tick_int {k l b a x y : Int} (F : Fits k l b a) (x0 : 0 ≤ x) (y0 : 0 ≤ y) :
    Kza5.next (set k l b) (loop x y) a.toNat = loop (water k l a x y) (torn k b a x y) ∧ 0 ≤ water k l a x y ∧ 0 ≤ torn k b a x y
    ∧ ((Kza5.sold (set k l b) (loop x y) a.toNat : Nat) : Int) = sold k b a x y ∧ ((Kza5.lost (set k l b) (loop x y) a.toNat : Nat) : Int) = lost k l a x y := by
  obtain ⟨k0, l0, b0, a0, k1, l1, b1, a1⟩ := F
  obtain ⟨k, rfl⟩ := Int.eq_ofNat_of_zero_le k0
  obtain ⟨l, rfl⟩ := Int.eq_ofNat_of_zero_le l0
  obtain ⟨b, rfl⟩ := Int.eq_ofNat_of_zero_le b0
  obtain ⟨a, rfl⟩ := Int.eq_ofNat_of_zero_le a0
  obtain ⟨x, rfl⟩ := Int.eq_ofNat_of_zero_le x0
  obtain ⟨y, rfl⟩ := Int.eq_ofNat_of_zero_le y0
  have h := tick_nat (k := k) (l := l) (b := b) (by omega) (by omega) (by omega) a ⟨x, y⟩
  obtain ⟨h1, h2, h3, h4⟩ := h
  simp only at h1 h2 h3 h4
  simp only [set, loop, Int.toNat_natCast, h1, h2, h3, h4]
  exact ⟨trivial, Int.natCast_nonneg _, Int.natCast_nonneg _, trivial, trivial⟩
/-- the loop's word: what is due from an empty loop is what is due from here, so many turns behind -/
structure Here (k l b a : Int) (m : Nat) (x y : Int) : Prop where
  le : m ≤ 1000
  x0 : 0 ≤ x
  y0 : 0 ≤ y
  eq : Kza5.steady (set k l b) a.toNat = Kza5.steadyOn (set k l b) a.toNat (1000 - m) m (loop x y)
theorem here_start (k l b a : Int) : Here k l b a 0 0 0 := ⟨by decide, by decide, by decide, rfl⟩
theorem loop_eq {x y x' y' : Int} (x0 : 0 ≤ x) (y0 : 0 ≤ y) (x0' : 0 ≤ x') (y0' : 0 ≤ y') : loop x' y' = loop x y ↔ (x' = x ∧ y' = y) := by
  simp only [loop, Kza5.Loop.mk.injEq]
  omega
theorem one (p : Kza5.Set_) (a m : Nat) (h : m < 1000) (s : Kza5.Loop) : Kza5.steadyOn p a (1000 - m) m s = if Kza5.next p s a = s then some (m, s) else Kza5.steadyOn p a (1000 - (m + 1)) (m + 1) (Kza5.next p s a) := by
  have e : 1000 - m = (1000 - (m + 1)) + 1 := by omega
  rw [e]
  rfl
theorem here_more {k l b a x y : Int} {m : Nat} (F : Fits k l b a) (H : Here k l b a m x y) (hm : m < 1000) (n : ¬ (water k l a x y = x ∧ torn k b a x y = y)) :
    Here k l b a (m + 1) (water k l a x y) (torn k b a x y) := by
  obtain ⟨le, x0, y0, eq⟩ := H
  obtain ⟨h1, h2, h3, _⟩ := tick_int F x0 y0
  rw [one _ _ _ hm, h1, if_neg (fun c => n ((loop_eq x0 y0 h2 h3).mp c))] at eq
  exact ⟨hm, h2, h3, eq⟩
theorem here_stop {k l b a x y : Int} {m : Nat} (F : Fits k l b a) (H : Here k l b a m x y) (hm : m < 1000) (n : water k l a x y = x ∧ torn k b a x y = y) :
    Kza5.steady (set k l b) a.toNat = some (m, loop x y) := by
  obtain ⟨le, x0, y0, eq⟩ := H
  obtain ⟨h1, h2, h3, _⟩ := tick_int F x0 y0
  rw [one _ _ _ hm, h1, if_pos ((loop_eq x0 y0 h2 h3).mpr n)] at eq
  exact eq
theorem here_none {k l b a x y : Int} (H : Here k l b a 1000 x y) : Kza5.steady (set k l b) a.toNat = none := H.eq
theorem good_iff {k l b w r a : Nat} : Kza5.good k l b w r a = true ↔ (k ≤ 1000 ∧ l ≤ 1000 ∧ b ≤ 1000) ∧ (w ≤ 1000000 ∧ r ≤ 1000000) ∧ a ≤ 100000 := by
  have e : Kza5.good k l b w r a = ((decide (k ≤ 1000) && decide (l ≤ 1000) && decide (b ≤ 1000)) && (decide (w ≤ 1000000) && decide (r ≤ 1000000)) && decide (a ≤ 100000)) := rfl
  rw [e]
  simp only [Bool.and_eq_true, decide_eq_true_eq]
  omega
theorem due (k l b a : Int) : PyKza5.steady k l b a = (Kza5.answer (.steady k.toNat l.toNat b.toNat a.toNat)).value :: Kza5Neutral.ints (Kza5.answer (.steady k.toNat l.toNat b.toNat a.toNat)).nums := rfl
theorem bad {k l b a : Int} (h : ¬ ((k ≤ 1000 ∧ l ≤ 1000 ∧ b ≤ 1000) ∧ a ≤ 100000)) : PyKza5.steady k l b a = [-22] := by
  have g : Kza5.good k.toNat l.toNat b.toNat 0 0 a.toNat = false := by
    cases e : Kza5.good k.toNat l.toNat b.toNat 0 0 a.toNat with
    | false => rfl
    | true =>
      have := good_iff.mp e
      omega
  rw [due]
  simp only [Kza5.answer, if_pos g, Kza1.say]
  rfl
theorem fits_good {k l b a : Int} (F : Fits k l b a) : ¬ (Kza5.good k.toNat l.toNat b.toNat 0 0 a.toNat = false) := by
  obtain ⟨k0, l0, b0, a0, k1, l1, b1, a1⟩ := F
  have h : Kza5.good k.toNat l.toNat b.toNat 0 0 a.toNat = true := good_iff.mpr (by omega)
  rw [h]
  decide
theorem never {k l b a x y : Int} (F : Fits k l b a) (H : Here k l b a 1000 x y) : PyKza5.steady k l b a = [-33] := by
  have h := here_none H
  simp only [set] at h
  rw [due]
  simp only [Kza5.answer, if_neg (fits_good F), h, Kza1.say]
  rfl
theorem found {k l b a x y : Int} {m : Nat} (F : Fits k l b a) (H : Here k l b a m x y) (hm : m < 1000) (n : water k l a x y = x ∧ torn k b a x y = y) :
    PyKza5.steady k l b a = [(m : Int), x, y, sold k b a x y, lost k l a x y] := by
  have h := here_stop F H hm n
  obtain ⟨_, _, _, h4, h5⟩ := tick_int F H.x0 H.y0
  have x0 := H.x0
  have y0 := H.y0
  simp only [set] at h h4 h5
  rw [due]
  simp only [Kza5.answer, if_neg (fits_good F), h, Kza5Neutral.ints, List.map_cons, List.map_nil, h4, h5]
  simp only [loop]
  rw [Int.toNat_of_nonneg x0, Int.toNat_of_nonneg y0]

/-- the loop's word: so many turns behind, what is due from an empty loop is what is due from here -/
structure Told (k l b a : Int) (pre : List Int) (x y : Int) : Prop where
  here : Here k l b a pre.length x y
theorem start (k l b a : Int) : Told k l b a [] 0 0 := ⟨here_start k l b a⟩
theorem more {k l b a x y v : Int} {pre : List Int} {m : Nat} (h : Told k l b a pre x y) (hm : pre.length < m) (m1 : m ≤ 1000) (F : Fits k l b a)
    (n : ¬ (water k l a x y = x ∧ torn k b a x y = y)) : Told k l b a (pre ++ [v]) (water k l a x y) (torn k b a x y) := by
  have e : (pre ++ [v]).length = pre.length + 1 := by simp
  refine ⟨?_⟩
  rw [e]
  exact here_more F h.here (by omega) n
theorem inside {lo hi x : Int} {cs : List Codec} {y : Codec.denoteAll cs} (h : Codec.withinAll (Codec.int lo hi :: cs) (x, y) = true) : lo ≤ x ∧ x ≤ hi ∧ Codec.withinAll cs y = true := by
  have h1 : (Codec.inInt lo hi x && Codec.withinAll cs y) = true := h
  unfold Codec.inInt at h1
  simp only [Bool.and_eq_true, decide_eq_true_eq] at h1
  exact ⟨h1.1.1, h1.1.2, h1.2⟩
theorem told_found {k l b a x y v : Int} {pre : List Int} (F : Fits k l b a) (h : Told k l b a pre x y) (e : v = 0 + (pre.length : Int)) (lt : pre.length < (1000 - 0 : Int).toNat)
    (n1 : water k l a x y = x) (n2 : torn k b a x y = y) : PyKza5.steady k l b a = [v, x, y, sold k b a x y, lost k l a x y] := by
  have d : v = (pre.length : Int) := by omega
  rw [d]
  exact found F h.here (by omega) ⟨n1, n2⟩
theorem told_never {k l b a x y : Int} {m : Nat} (F : Fits k l b a) (h : Told k l b a (rangeKs 0 m) x y) (e : m = 1000) : PyKza5.steady k l b a = [-33] := by
  have c := h.here
  rw [rangeKs_length, e] at c
  exact never F c
theorem said : PySem.Challenge.rw_brokeloop_s03_steady.wellSaid = true := by decide +kernel
/-- a whole number's bounds off a request, and the rest of the request -/
theorem asked_int {lo hi x : Int} {cs : List Codec} {ds : List WData} (h : (Codec.decAll (.int lo hi :: cs) (.int x :: ds)).isSome = true) :
    lo ≤ x ∧ x ≤ hi ∧ (Codec.decAll cs ds).isSome = true := by
  have e : Codec.decAll (.int lo hi :: cs) (.int x :: ds) = Codec.both Prod.mk (if Codec.inInt lo hi x = true then some x else none) (Codec.decAll cs ds) := rfl
  rw [e] at h
  cases h1 : Codec.inInt lo hi x with
  | false =>
    rw [h1] at h
    cases h
  | true =>
    cases h2 : Codec.decAll cs ds with
    | none =>
      rw [h1, h2] at h
      cases h
    | some r =>
      unfold Codec.inInt at h1
      simp only [Bool.and_eq_true, decide_eq_true_eq] at h1
      exact ⟨h1.1, h1.2, rfl⟩
theorem bounds {k l b a : Int} (h : OpenSpec.pre PySem.Challenge.rw_brokeloop_s03_steady [.int k, .int l, .int b, .int a] = true) :
    (0 ≤ k ∧ 0 ≤ l) ∧ 0 ≤ b ∧ 0 ≤ a := by
  have h := os_pre_isSome h
  obtain ⟨k0, _, h⟩ := asked_int h
  obtain ⟨l0, _, h⟩ := asked_int h
  obtain ⟨b0, _, h⟩ := asked_int h
  obtain ⟨a0, _, h⟩ := asked_int h
  exact ⟨⟨k0, l0⟩, b0, a0⟩
section
open PyProof.Rows
variable {prog : Program} {w : World} {A : Around} {E : Value → Shared → Prop} {s : Shared} {h₀ : Heap} {L : Addr} {m : Str → Option Value} {news : List (Addr × Obj)} {a b c : Int} {t u x : Tok} {Q : Value → Shared → Prop}
/-- the greatest of three numbers as a letter and what it is -/
theorem max3 (hh : A.handled = none) (F : Fr h₀ L s.heap m) (N : News h₀ L s.heap news)
    (h : ∀ (g : Int) (y : Tok) (h' : Heap) (tk : Nat), Fr h₀ L h' m → News h₀ L h' news → a ≤ g → b ≤ g → c ≤ g → (g = a ∨ g = b ∨ g = c) → Q (.int g y) { s with heap := h', toks := tk }) :
    wpAny (model prog w) A (call (.builtin "max") [.int a t, .int b u, .int c x]) Q E s := by
  refine max_three_ints hh fun h' tk hk => ?_
  have F' := F.grownK hk
  have N' := N.grown hk
  split
  · split
    · exact h _ _ _ _ F' N' (by omega) (by omega) (by omega) (by omega)
    · exact h _ _ _ _ F' N' (by omega) (by omega) (by omega) (by omega)
  · split
    · exact h _ _ _ _ F' N' (by omega) (by omega) (by omega) (by omega)
    · exact h _ _ _ _ F' N' (by omega) (by omega) (by omega) (by omega)
/-- of two -/
theorem max2 (hh : A.handled = none) (F : Fr h₀ L s.heap m) (N : News h₀ L s.heap news)
    (h : ∀ (g : Int) (y : Tok) (h' : Heap) (tk : Nat), Fr h₀ L h' m → News h₀ L h' news → a ≤ g → b ≤ g → (g = a ∨ g = b) → Q (.int g y) { s with heap := h', toks := tk }) :
    wpAny (model prog w) A (call (.builtin "max") [.int a t, .int b u]) Q E s := by
  refine max_two_ints hh fun h' tk hk => ?_
  have F' := F.grownK hk
  have N' := N.grown hk
  split
  · exact h _ _ _ _ F' N' (by omega) (by omega) (by omega)
  · exact h _ _ _ _ F' N' (by omega) (by omega) (by omega)
end
end Sd
local macro_rules | `(tactic| walk_at "call builtin:max") => `(tactic| (k_here; (with_reducible show wpAny _ _ (call (Value.builtin _) [Value.int _ _, Value.int _ _, Value.int _ _]) _ _ _); (with_unfolding_all refine' Sd.max3 ?k0 ?k1 ?k2 ?_; (case k0 => with_unfolding_all rfl); (case k1 => k_asm); (case k2 => k_asm); k_whole); intro g' y' h' tk' F' N' m1 m2 m3 m4))
local macro_rules | `(tactic| walk_at "call builtin:max") => `(tactic| (k_here; (with_reducible show wpAny _ _ (call (Value.builtin _) [Value.int _ _, Value.int _ _]) _ _ _); (with_unfolding_all refine' Sd.max2 ?k0 ?k1 ?k2 ?_; (case k0 => with_unfolding_all rfl); (case k1 => k_asm); (case k2 => k_asm); k_whole); intro g' y' h' tk' F' N' m1 m2 m3))
local macro_rules | `(tactic| walk_at "InvPostN ret") => `(tactic| ((with_reducible show InvPostN _ _ _ _ _ _ _ (.ret _) _); dsimp only [InvPostN]))
set_option maxRecDepth 100000 in
set_option maxHeartbeats 8000000 in
theorem PySem.Challenge.cw_brokeloop_s03_steady_holds : PySem.Challenge.rw_brokeloop_s03_steady.Holds := by
  k_with "state" => first
    | exact Sd.start _ _ _ _
    | (refine Sd.more (by assumption) (by assumption) (by omega) ⟨by assumption, by assumption, by assumption, by assumption, by omega, by omega, by omega, by omega⟩ ?_; simp_all [Sd.water, Sd.torn, Sd.lost, Sd.paper])
  k_with "pyIter ref" => ((rename OpenSpec.pre _ _ = true => hq); (have hb := Sd.bounds hq); (obtain ⟨⟨k0, l0⟩, b0, a0⟩ := hb); k_state_given ["keep", "lose", "broke", "a"] (fun k l b a pre x y => Sd.Told k l b a pre x y) "water" "torn")
  open_ks with [.int 0, .int 0, .int 0, .int 0]
  all_goals
    os_open Sd.said with args win asked e
    obtain ⟨k, l, b, a, u⟩ := args
    obtain ⟨d1, e⟩ := List.cons.inj e
    obtain ⟨d2, e⟩ := List.cons.inj e
    obtain ⟨d3, e⟩ := List.cons.inj e
    obtain ⟨d4, e⟩ := List.cons.inj e
    have d1 := os_j_int d1
    have d2 := os_j_int d2
    have d3 := os_j_int d3
    have d4 := os_j_int d4
    subst d1 d2 d3 d4
    obtain ⟨k0, _, win⟩ := Sd.inside win
    obtain ⟨l0, _, win⟩ := Sd.inside win
    obtain ⟨b0, _, win⟩ := Sd.inside win
    obtain ⟨a0, _, win⟩ := Sd.inside win
    show ofPy (PyData.list _) = WData.list (List.map WData.int (PyKza5.steady _ _ _ _))
    refine os_list ?_
    dsimp only
    first
    | (rw [Sd.bad (by omega)]; rfl)
    | (rw [Sd.told_never ⟨k0, l0, b0, a0, by omega, by omega, by omega, by omega⟩ kInv (by rfl)]; rfl)
    | (rw [Sd.told_found ⟨k0, l0, b0, a0, by omega, by omega, by omega, by omega⟩ kInv kEq kLt (by assumption) (by assumption)]; rfl)
#print axioms PySem.Challenge.cw_brokeloop_s03_steady_holds
