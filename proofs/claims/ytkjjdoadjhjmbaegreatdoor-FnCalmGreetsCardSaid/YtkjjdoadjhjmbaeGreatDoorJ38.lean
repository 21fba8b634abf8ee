/-
  A greeting of two, in plain words: what each becomes; that both who are up heard the same; that a calm one comes up; no program is spoken of here.
  The keys of two who greeted, in plain words: both who are up have the same.
  How much is said in a greeting, in plain words.
-/
import Derived.Test.YtkjjdoadjhjmbaeGreatDoorJ31
namespace Go.Proofs.YtkjjdoadjhjmbaeGreatDoor
open Go.RowKit

/-- A greeter: role, secret, pin, once, step, mine, yours. -/
abbrev GrD := Int × Int × Int × Int × Int × ByteArray × ByteArray
/-- What one becomes and answers that hears a text. -/
def HearD (g : GrD) (s : ByteArray) (h : GrD) (t : ByteArray) : Prop :=
  ∃ y4 y6, HearIs g.1 g.2.1 g.2.2.1 g.2.2.2.2.1 g.2.2.2.2.2.1 g.2.2.2.2.2.2 s y4 y6 t ∧ h = (g.1, g.2.1, g.2.2.1, g.2.2.2.1, y4, g.2.2.2.2.2.1, y6)
theorem hear_d (g : GrD) (s : ByteArray) : ∃ h t, HearD g s h t := by
  obtain ⟨y4, y6, t, h⟩ := hear_is g.1 g.2.1 g.2.2.1 g.2.2.2.2.1 g.2.2.2.2.2.1 g.2.2.2.2.2.2 s
  exact ⟨_, t, y4, y6, h, rfl⟩
/-- Two who greet: both, what each said, and how much of it was taken. -/
structure GT where
  a : GrD
  b : GrD
  sa : List ByteArray
  sb : List ByteArray
  ia : Nat
  ib : Nat
/-- An answer that is not empty is said. -/
def saidT (l : List ByteArray) (t : ByteArray) : List ByteArray := if t = ⟨#[]⟩ then l else l ++ [t]
/-- How much is taken behind an event. -/
def tookT (e : Int) (i : Nat) : Nat := if 1 < e % 4 then i else i + 1
/-- What an event does. -/
def DoIs (e : Int) (x y : GT) : Prop :=
  (e % 2 = 0 ∧ ((x.sa.length ≤ x.ia ∧ y = x) ∨ ∃ s h t, x.sa[x.ia]? = some s ∧ HearD x.b s h t ∧ y = ⟨x.a, h, x.sa, saidT x.sb t, tookT e x.ia, x.ib⟩)) ∨
  (e % 2 = 1 ∧ ((x.sb.length ≤ x.ib ∧ y = x) ∨ ∃ s h t, x.sb[x.ib]? = some s ∧ HearD x.a s h t ∧ y = ⟨h, x.b, saidT x.sa t, x.sb, x.ia, tookT e x.ib⟩))
theorem do_is (e : Int) (x : GT) : ∃ y, DoIs e x y := by
  rcases Int.emod_two_eq e with h | h
  · by_cases h2 : x.sa.length ≤ x.ia
    · exact ⟨_, .inl ⟨h, .inl ⟨h2, rfl⟩⟩⟩
    · have h3 := List.getElem?_eq_getElem (show x.ia < x.sa.length by omega)
      obtain ⟨g, t, hg⟩ := hear_d x.b x.sa[x.ia]
      exact ⟨_, .inl ⟨h, .inr ⟨_, g, t, h3, hg, rfl⟩⟩⟩
  · by_cases h2 : x.sb.length ≤ x.ib
    · exact ⟨_, .inr ⟨h, .inl ⟨h2, rfl⟩⟩⟩
    · have h3 := List.getElem?_eq_getElem (show x.ib < x.sb.length by omega)
      obtain ⟨g, t, hg⟩ := hear_d x.a x.sb[x.ib]
      exact ⟨_, .inr ⟨h, .inr ⟨_, g, t, h3, hg, rfl⟩⟩⟩
/-- What events do, in order. -/
def RunIs : List Int → GT → GT → Prop
  | [], x, y => y = x
  | e :: es, x, y => ∃ z, DoIs e x z ∧ RunIs es z y
theorem run_is (es : List Int) (x : GT) : ∃ y, RunIs es x y := by
  induction es generalizing x with
  | nil => exact ⟨x, rfl⟩
  | cons e es ih =>
    obtain ⟨z, hz⟩ := do_is e x
    obtain ⟨y, hy⟩ := ih z
    exact ⟨y, z, hz, hy⟩
/-- Two who said Hello. -/
def firstG (s0 s1 s2 s3 : ByteArray) : GT :=
  ⟨(1, (secretP s0 : Nat), (publicP (secretP s1) : Nat), (secretP s2 : Nat), 1, helloB 1 (publicP (secretP s2)), ⟨#[]⟩),
   (2, (secretP s1 : Nat), (publicP (secretP s0) : Nat), (secretP s3 : Nat), 1, helloB 2 (publicP (secretP s3)), ⟨#[]⟩),
   [helloB 1 (publicP (secretP s2))], [helloB 2 (publicP (secretP s3))], 0, 0⟩

theorem oneB_size (n : Int) : (oneB n).size = 1 := rfl
theorem hello_size (r : Int) (p : Nat) : (helloB r p).size = 6 := by
  unfold helloB
  rw [ByteArray.size_append, ByteArray.size_append, numB_size, oneB_size]
  rfl
theorem pub_small (s : Nat) : publicP s < 4294967296 := by
  have h : publicP s < prime := Nat.mod_lt _ (by decide)
  rw [primeV] at h
  omega
theorem pub_secret (seed : ByteArray) : inGroup (publicP (secretP seed) : Nat) = true := by
  have h := secretP_in seed
  exact public_in _ (by omega) (by omega)
/-- A hello of one is a hello of the other one to the other. -/
theorem other_hello (r q : Int) (hq : 3 - r = q) (seed : ByteArray) : OtherIs inGroup r (helloB q (publicP (secretP seed))) (publicP (secretP seed)) true := by
  refine .inl ⟨numB (publicP (secretP seed)), rfl, by rw [hq]; rfl, ?_, (pub_secret seed).symm⟩
  exact (fourBack_four _ (pub_small _)).symm
/-- What a greeter holds on its way. -/
structure GI (r sec pin once : Int) (mine other : ByteArray) (i : Nat) (g : GrD) : Prop where
  form : ∃ k y, g = (r, sec, pin, once, k, mine, y) ∧ (k = 1 ∨ k = 2 ∨ k = 3 ∨ k = 4) ∧ (k = 1 → i = 0) ∧ (k = 2 ∨ k = 3 → y = other) ∧ y.size ≤ 6
theorem GI.hears {r sec pin once : Int} {mine other s : ByteArray} {i j : Nat} {g h : GrD} {t : ByteArray} {n : Nat} (hg : GI r sec pin once mine other i g) (ho : OtherIs inGroup r other n true) (hz : other.size ≤ 6) (hs : i = 0 → s = other) (hh : HearD g s h t) : GI r sec pin once mine other j h := by
  obtain ⟨k, y, rfl, hk, h1, h2, h3⟩ := hg
  obtain ⟨y4, y6, hh, rfl⟩ := hh
  rcases hh with ⟨e, m, hm, rfl, rfl, hp⟩ | ⟨e, ⟨m, hm⟩, rfl, rfl, rfl⟩ | ⟨e, b, hb, rfl, rfl, rfl⟩ | ⟨e1, e2, rfl, rfl, rfl⟩
  · have e' : k = 1 := e
    exact ⟨2, y6, rfl, .inr (.inl rfl), fun h => absurd h (by decide), fun _ => hs (h1 e'), by rw [hs (h1 e')]; exact hz⟩
  · have e' : k = 1 := e
    rw [hs (h1 e')] at hm
    exact absurd (other_one ho hm).2 (by decide)
  · have e' : k = 2 := e
    cases b with
    | true => exact ⟨3, _, rfl, .inr (.inr (.inl rfl)), fun h => absurd h (by decide), fun _ => h2 (.inl e'), h3⟩
    | false => exact ⟨4, _, rfl, .inr (.inr (.inr rfl)), fun h => absurd h (by decide), fun h => absurd h (by decide), h3⟩
  · exact ⟨_, _, rfl, hk, fun h => absurd h e1, h2, h3⟩
/-- What two hold on their way. -/
structure GP (s0 s1 s2 s3 : ByteArray) (x : GT) : Prop where
  ga : GI 1 (secretP s0 : Nat) (publicP (secretP s1) : Nat) (secretP s2 : Nat) (helloB 1 (publicP (secretP s2))) (helloB 2 (publicP (secretP s3))) x.ib x.a
  gb : GI 2 (secretP s1 : Nat) (publicP (secretP s0) : Nat) (secretP s3 : Nat) (helloB 2 (publicP (secretP s3))) (helloB 1 (publicP (secretP s2))) x.ia x.b
  sa : x.sa[0]? = some (helloB 1 (publicP (secretP s2)))
  sb : x.sb[0]? = some (helloB 2 (publicP (secretP s3)))
theorem said_first {l : List ByteArray} {s : ByteArray} (t : ByteArray) (h : l[0]? = some s) : (saidT l t)[0]? = some s := by
  unfold saidT
  split
  · exact h
  · rw [List.getElem?_append_left (by cases l with | nil => simp at h | cons => simp)]
    exact h
theorem GP.first (s0 s1 s2 s3 : ByteArray) : GP s0 s1 s2 s3 (firstG s0 s1 s2 s3) :=
  ⟨⟨1, _, rfl, .inl rfl, fun _ => rfl, fun h => absurd h (by decide), by decide⟩, ⟨1, _, rfl, .inl rfl, fun _ => rfl, fun h => absurd h (by decide), by decide⟩, rfl, rfl⟩
theorem GP.does {s0 s1 s2 s3 : ByteArray} {e : Int} {x y : GT} (hx : GP s0 s1 s2 s3 x) (hd : DoIs e x y) : GP s0 s1 s2 s3 y := by
  rcases hd with ⟨-, ⟨-, rfl⟩ | ⟨s, h, t, hs, hh, rfl⟩⟩ | ⟨-, ⟨-, rfl⟩ | ⟨s, h, t, hs, hh, rfl⟩⟩
  · exact hx
  · exact ⟨hx.ga, hx.gb.hears (other_hello 2 1 rfl s2) (by rw [hello_size]; omega) (fun e => by rw [e, hx.sa] at hs; exact (Option.some.inj hs).symm) hh, hx.sa, said_first t hx.sb⟩
  · exact hx
  · exact ⟨hx.ga.hears (other_hello 1 2 rfl s3) (by rw [hello_size]; omega) (fun e => by rw [e, hx.sb] at hs; exact (Option.some.inj hs).symm) hh, hx.gb, said_first t hx.sa, hx.sb⟩
theorem GP.runs {s0 s1 s2 s3 : ByteArray} {es : List Int} {x y : GT} (hx : GP s0 s1 s2 s3 x) (hr : RunIs es x y) : GP s0 s1 s2 s3 y := by
  induction es generalizing x with
  | nil => rw [show y = x from hr]; exact hx
  | cons e es ih =>
    obtain ⟨z, hz, hy⟩ := hr
    exact ih (hx.does hz) hy

theorem signed_empty (E S : Nat) : (⟨#[112]⟩ : ByteArray) ++ (numB E ++ numB S) ≠ ⟨#[]⟩ := by
  intro h
  have h2 := congrArg ByteArray.size h
  rw [ByteArray.size_append] at h2
  have h3 : (⟨#[112]⟩ : ByteArray).size = 1 := rfl
  have h4 : (⟨#[]⟩ : ByteArray).size = 0 := rfl
  omega
/-- Who hears the other one's hello. -/
theorem hear_hello {r sec pin once : Int} {mine y other t : ByteArray} {h : GrD} {n : Nat} (ho : OtherIs inGroup r other n true) (hh : HearD (r, sec, pin, once, 1, mine, y) other h t) : h = (r, sec, pin, once, 2, mine, other) ∧ ProofIs r sec 2 mine other t := by
  obtain ⟨y4, y6, hh, rfl⟩ := hh
  rcases hh with ⟨-, m, hm, rfl, rfl, hp⟩ | ⟨-, ⟨m, hm⟩, rfl, rfl, rfl⟩ | ⟨e, -⟩ | ⟨e1, -⟩
  · exact ⟨rfl, hp⟩
  · exact absurd (other_one ho hm).2 (by decide)
  · exact absurd (show (1 : Int) = 2 from e) (by decide)
  · exact absurd rfl e1
/-- Who hears a right proof. -/
theorem hear_proof {r sec pin once : Int} {mine y s t : ByteArray} {h : GrD} (hc : CheckIs r pin mine y s true) (hh : HearD (r, sec, pin, once, 2, mine, y) s h t) : h = (r, sec, pin, once, 3, mine, y) ∧ t = ⟨#[]⟩ := by
  obtain ⟨y4, y6, hh, rfl⟩ := hh
  rcases hh with ⟨e, -⟩ | ⟨e, -⟩ | ⟨-, b, hb, rfl, rfl, rfl⟩ | ⟨-, e2, -⟩
  · exact absurd (show (2 : Int) = 1 from e) (by decide)
  · exact absurd (show (2 : Int) = 1 from e) (by decide)
  · have e : b = true := hb.2 (hc.1 rfl)
    subst e
    exact ⟨rfl, rfl⟩
  · exact absurd rfl e2
theorem proof_said {r sec : Int} {mine yours t : ByteArray} (h : ProofIs r sec 2 mine yours t) : ∃ E S, SigIs sec (transB r mine yours ++ oneB r) E S ∧ t = (⟨#[112]⟩ : ByteArray) ++ (numB E ++ numB S) := by
  rcases h with ⟨-, h⟩ | ⟨h, -⟩
  · exact h
  · exact absurd (.inl rfl) h
/-- A proof of one is right to the other. -/
theorem proof_right {r q : Int} (hq : 3 - r = q) (seed mine yours t : ByteArray) (ht : transB r mine yours = transB q yours mine) (h : ProofIs q (secretP seed : Nat) 2 yours mine t) : CheckIs r (publicP (secretP seed) : Nat) mine yours t true := by
  refine ⟨fun _ => ?_, fun _ => rfl⟩
  obtain ⟨E, S, hs, rfl⟩ := proof_said h
  have hin := secretP_in seed
  rcases hs with ⟨-, hE, hS⟩ | ⟨hn, -, -⟩
  · rw [Int.toNat_natCast] at hE hS
    refine ⟨E, S, by rw [hE]; exact signE_lt _ _, by rw [hS]; exact signS_lt _ _, rfl, pub_secret seed, ?_⟩
    rw [Int.toNat_natCast, ht, hq, hE, hS, back_sign]
    rfl
  · exact absurd ⟨by omega, by omega⟩ hn
theorem said_more {l : List ByteArray} {E S : Nat} : saidT l ((⟨#[112]⟩ : ByteArray) ++ (numB E ++ numB S)) = l ++ [(⟨#[112]⟩ : ByteArray) ++ (numB E ++ numB S)] := by
  unfold saidT
  rw [if_neg (signed_empty E S)]
theorem saidT_none (l : List ByteArray) : saidT l ⟨#[]⟩ = l := by
  unfold saidT
  rw [if_pos rfl]
theorem do_zero {x y : GT} {s : ByteArray} (hs : x.sa[x.ia]? = some s) (hd : DoIs 0 x y) : ∃ h t, HearD x.b s h t ∧ y = ⟨x.a, h, x.sa, saidT x.sb t, x.ia + 1, x.ib⟩ := by
  rcases hd with ⟨-, ⟨h, -⟩ | ⟨s', h, t, hs', hh, rfl⟩⟩ | ⟨h, -⟩
  · rw [List.getElem?_eq_none h] at hs
    cases hs
  · rw [hs] at hs'
    obtain rfl := Option.some.inj hs'
    exact ⟨h, t, hh, rfl⟩
  · exact absurd h (by decide)
theorem do_one {x y : GT} {s : ByteArray} (hs : x.sb[x.ib]? = some s) (hd : DoIs 1 x y) : ∃ h t, HearD x.a s h t ∧ y = ⟨h, x.b, saidT x.sa t, x.sb, x.ia, x.ib + 1⟩ := by
  rcases hd with ⟨h, -⟩ | ⟨-, ⟨h, -⟩ | ⟨s', h, t, hs', hh, rfl⟩⟩
  · exact absurd h (by decide)
  · rw [List.getElem?_eq_none h] at hs
    cases hs
  · rw [hs] at hs'
    obtain rfl := Option.some.inj hs'
    exact ⟨h, t, hh, rfl⟩
theorem calm_go {sA pA oA sB pB oB : Int} {MA MB e : ByteArray} {nA nB : Nat} {y : GT} (oa : OtherIs inGroup 2 MA nA true) (ob : OtherIs inGroup 1 MB nB true)
    (ca : ∀ t, ProofIs 1 sA 2 MA MB t → CheckIs 2 pB MB MA t true) (cb : ∀ t, ProofIs 2 sB 2 MB MA t → CheckIs 1 pA MA MB t true)
    (hr : RunIs [0, 1, 0, 1] ⟨(1, sA, pA, oA, 1, MA, e), (2, sB, pB, oB, 1, MB, e), [MA], [MB], 0, 0⟩ y) :
    y.a = (1, sA, pA, oA, 3, MA, MB) ∧ y.b = (2, sB, pB, oB, 3, MB, MA) := by
  obtain ⟨x1, d1, x2, d2, x3, d3, x4, d4, hy⟩ := hr
  obtain rfl : y = x4 := hy
  obtain ⟨h1, t1, k1, rfl⟩ := do_zero (s := MA) rfl d1
  obtain ⟨rfl, p1⟩ := hear_hello oa k1
  obtain ⟨E1, S1, -, e1⟩ := proof_said p1
  have q1 : saidT [MB] t1 = [MB, t1] := by rw [e1]; exact said_more
  simp only [q1] at d2
  obtain ⟨h2, t2, k2, rfl⟩ := do_one (s := MB) rfl d2
  obtain ⟨rfl, p2⟩ := hear_hello ob k2
  obtain ⟨E2, S2, -, e2⟩ := proof_said p2
  have q2 : saidT [MA] t2 = [MA, t2] := by rw [e2]; exact said_more
  simp only [q2] at d3
  obtain ⟨h3, t3, k3, rfl⟩ := do_zero (s := t2) rfl d3
  obtain ⟨rfl, rfl⟩ := hear_proof (ca t2 p2) k3
  simp only [saidT_none] at d4
  obtain ⟨h4, t4, k4, rfl⟩ := do_one (s := t1) rfl d4
  obtain ⟨rfl, rfl⟩ := hear_proof (cb t1 p1) k4
  exact ⟨rfl, rfl⟩
theorem trans_two (a b : ByteArray) : transB 2 a b = transB 1 b a := by
  unfold transB
  rw [if_neg (by decide), if_pos rfl]
/-- A calm greeting comes up at both. -/
theorem calm_up {s0 s1 s2 s3 : ByteArray} {y : GT} (hr : RunIs [0, 1, 0, 1] (firstG s0 s1 s2 s3) y) :
    y.a = ((1, (secretP s0 : Nat), (publicP (secretP s1) : Nat), (secretP s2 : Nat), 3, helloB 1 (publicP (secretP s2)), helloB 2 (publicP (secretP s3))) : GrD) ∧
    y.b = ((2, (secretP s1 : Nat), (publicP (secretP s0) : Nat), (secretP s3 : Nat), 3, helloB 2 (publicP (secretP s3)), helloB 1 (publicP (secretP s2))) : GrD) := by
  unfold firstG at hr
  exact calm_go (other_hello 2 1 rfl s2) (other_hello 1 2 rfl s3) (fun t h => proof_right (q := 1) (by decide) s0 _ _ t (trans_two _ _) h) (fun t h => proof_right (q := 2) (by decide) s1 _ _ t (trans_two _ _).symm h) hr

end Go.Proofs.YtkjjdoadjhjmbaeGreatDoor
namespace Go.Proofs.YtkjjdoadjhjmbaeGreatDoor
open Go.RowKit

theorem keys_up {role once step : Int} {mine yours s o : ByteArray} {ok : Bool} {n : Nat} (ho : step = 3 → OtherIs inGroup role yours n true) (hs : SecretIn once) (h : KeysIs role once step mine yours s o ok) :
    (ok = true ↔ step = 3) ∧ (step = 3 → (role = 1 ∧ s = (keysB role once n mine yours).extract 0 32 ∧ o = (keysB role once n mine yours).extract 32 64) ∨ (role ≠ 1 ∧ s = (keysB role once n mine yours).extract 32 64 ∧ o = (keysB role once n mine yours).extract 0 32)) := by
  rcases h with ⟨m, ⟨h3, hm, -⟩, rfl, hk⟩ | ⟨hn, rfl, rfl, rfl⟩
  · refine ⟨⟨fun _ => h3, fun _ => rfl⟩, fun _ => ?_⟩
    obtain ⟨rfl, -⟩ := other_one (ho h3) hm
    exact hk
  · have hne : ¬ step = 3 := fun h3 => hn ⟨n, h3, ho h3, hs⟩
    exact ⟨⟨fun e => (by cases e), fun h3 => absurd h3 hne⟩, fun h3 => absurd h3 hne⟩
theorem keys_meet (s2 s3 MA MB : ByteArray) : keysB 1 (secretP s2 : Nat) (publicP (secretP s3)) MA MB = keysB 2 (secretP s3 : Nat) (publicP (secretP s2)) MB MA := by
  unfold keysB
  rw [trans_two, Int.toNat_natCast, Int.toNat_natCast, shared_same]
theorem secret_in (seed : ByteArray) : SecretIn (secretP seed : Nat) := by
  have h := secretP_in seed
  exact ⟨by omega, by omega⟩
/-- What is told of two who greeted. -/
structure KeyEnd (a b : GrD) (s o t u : ByteArray) (up both : Bool) : Prop where
  one : up = true ↔ a.2.2.2.2.1 = 3
  two : both = true ↔ b.2.2.2.2.1 = 3
  meet : up = true → both = true → transB a.1 a.2.2.2.2.2.1 a.2.2.2.2.2.2 = transB b.1 b.2.2.2.2.2.1 b.2.2.2.2.2.2 ∧ a.2.2.2.2.2.2 = b.2.2.2.2.2.1 ∧ b.2.2.2.2.2.2 = a.2.2.2.2.2.1 ∧ s = u ∧ o = t ∧ s.size = 32
theorem keysB_size (role once : Int) (n : Nat) (mine yours : ByteArray) : (keysB role once n mine yours).size = 64 := expandP_length _ _ 64
theorem GP.keys {s0 s1 s2 s3 : ByteArray} {x : GT} (hx : GP s0 s1 s2 s3 x) {s o t u : ByteArray} {up both : Bool}
    (ka : KeysIs x.a.1 x.a.2.2.2.1 x.a.2.2.2.2.1 x.a.2.2.2.2.2.1 x.a.2.2.2.2.2.2 s o up) (kb : KeysIs x.b.1 x.b.2.2.2.1 x.b.2.2.2.2.1 x.b.2.2.2.2.2.1 x.b.2.2.2.2.2.2 t u both) : KeyEnd x.a x.b s o t u up both := by
  obtain ⟨k, y, ea, -, -, ya, -⟩ := hx.ga
  obtain ⟨l, z, eb, -, -, yb, -⟩ := hx.gb
  rw [ea] at ka
  rw [eb] at kb
  rw [ea, eb]
  have ha := keys_up (n := publicP (secretP s3)) (fun h => by rw [ya (.inr h)]; exact other_hello 1 2 (by decide) s3) (secret_in s2) ka
  have hb := keys_up (n := publicP (secretP s2)) (fun h => by rw [yb (.inr h)]; exact other_hello 2 1 (by decide) s2) (secret_in s3) kb
  refine ⟨ha.1, hb.1, fun h1 h2 => ?_⟩
  have h3 := ha.1.1 h1
  have h4 := hb.1.1 h2
  have e1 := ya (.inr h3)
  have e2 := yb (.inr h4)
  subst e1 e2
  rcases ha.2 h3 with ⟨-, p1, p2⟩ | ⟨h, -⟩
  · rcases hb.2 h4 with ⟨h, -⟩ | ⟨-, q1, q2⟩
    · exact absurd (show (2 : Int) = 1 from h) (by decide)
    · refine ⟨(trans_two _ _).symm, rfl, rfl, ?_, ?_, ?_⟩
      · rw [p1, q2, keys_meet]
      · rw [p2, q1, keys_meet]
      · rw [p1, ByteArray.size_extract, keysB_size]; rfl
  · exact absurd rfl h
theorem GP.hasA {s0 s1 s2 s3 : ByteArray} {x : GT} (hx : GP s0 s1 s2 s3 x) : x.a.2.2.2.2.1 = 3 → ∃ n, HasKeys x.a.1 x.a.2.2.2.1 x.a.2.2.2.2.1 x.a.2.2.2.2.2.2 n := by
  obtain ⟨k, y, ea, -, -, ya, -⟩ := hx.ga
  rw [ea]
  intro h
  have h' : k = 3 := h
  exact ⟨publicP (secretP s3), h', by show OtherIs inGroup 1 y _ true; rw [ya (.inr h')]; exact other_hello 1 2 (by decide) s3, secret_in s2⟩
theorem GP.hasB {s0 s1 s2 s3 : ByteArray} {x : GT} (hx : GP s0 s1 s2 s3 x) : x.b.2.2.2.2.1 = 3 → ∃ n, HasKeys x.b.1 x.b.2.2.2.1 x.b.2.2.2.2.1 x.b.2.2.2.2.2.2 n := by
  obtain ⟨k, y, eb, -, -, yb, -⟩ := hx.gb
  rw [eb]
  intro h
  have h' : k = 3 := h
  exact ⟨publicP (secretP s2), h', by show OtherIs inGroup 2 y _ true; rw [yb (.inr h')]; exact other_hello 2 1 (by decide) s2, secret_in s3⟩

end Go.Proofs.YtkjjdoadjhjmbaeGreatDoor
namespace Go.Proofs.YtkjjdoadjhjmbaeGreatDoor
open Go.RowKit

/-- How much was said behind n events. -/
structure GZ (n : Nat) (x : GT) : Prop where
  ta : ∀ s ∈ x.sa, s.size ≤ 9
  tb : ∀ s ∈ x.sb, s.size ≤ 9
  la : x.sa.length ≤ n + 1
  lb : x.sb.length ≤ n + 1
  na : x.ia ≤ n
  nb : x.ib ≤ n
theorem proof_size {role secret step : Int} {mine yours t : ByteArray} (h : ProofIs role secret step mine yours t) : t.size ≤ 9 := by
  rcases h with ⟨-, E, S, -, rfl⟩ | ⟨-, rfl⟩
  · show 9 ≤ 9
    omega
  · show 0 ≤ 9
    omega
theorem hear_size {g h : GrD} {s t : ByteArray} (hh : HearD g s h t) : t.size ≤ 9 := by
  obtain ⟨y4, y6, hh, -⟩ := hh
  rcases hh with ⟨-, n, -, -, -, hp⟩ | ⟨-, -, -, -, rfl⟩ | ⟨-, b, -, -, -, rfl⟩ | ⟨-, -, -, -, rfl⟩
  · exact proof_size hp
  · show 0 ≤ 9
    omega
  · show 0 ≤ 9
    omega
  · show 0 ≤ 9
    omega
theorem said_size {l : List ByteArray} {t : ByteArray} (hl : ∀ s ∈ l, s.size ≤ 9) (ht : t.size ≤ 9) : ∀ s ∈ saidT l t, s.size ≤ 9 := by
  unfold saidT
  split
  · exact hl
  · intro s hs
    rcases List.mem_append.1 hs with h | h
    · exact hl s h
    · rw [List.mem_singleton.1 h]
      exact ht
theorem said_len (l : List ByteArray) (t : ByteArray) : (saidT l t).length ≤ l.length + 1 := by
  unfold saidT
  split
  · omega
  · simp
theorem took_len (e : Int) (i : Nat) : tookT e i ≤ i + 1 := by
  unfold tookT
  split <;> omega
theorem GZ.first (s0 s1 s2 s3 : ByteArray) : GZ 0 (firstG s0 s1 s2 s3) :=
  ⟨fun s hs => by rw [List.mem_singleton.1 hs, hello_size]; omega, fun s hs => by rw [List.mem_singleton.1 hs, hello_size]; omega, Nat.le_refl _, Nat.le_refl _, Nat.le_refl _, Nat.le_refl _⟩
theorem GZ.does {n : Nat} {e : Int} {x y : GT} (hx : GZ n x) (hd : DoIs e x y) : GZ (n + 1) y := by
  have h1 := hx.la
  have h2 := hx.lb
  have h3 := hx.na
  have h4 := hx.nb
  rcases hd with ⟨-, ⟨-, rfl⟩ | ⟨s, h, t, hs, hh, rfl⟩⟩ | ⟨-, ⟨-, rfl⟩ | ⟨s, h, t, hs, hh, rfl⟩⟩
  · exact ⟨hx.ta, hx.tb, by omega, by omega, by omega, by omega⟩
  · have h5 := said_len x.sb t
    have h6 := took_len e x.ia
    exact ⟨hx.ta, said_size hx.tb (hear_size hh), by show x.sa.length ≤ _; omega, by show (saidT x.sb t).length ≤ _; omega, by show tookT e x.ia ≤ _; omega, by show x.ib ≤ _; omega⟩
  · exact ⟨hx.ta, hx.tb, by omega, by omega, by omega, by omega⟩
  · have h5 := said_len x.sa t
    have h6 := took_len e x.ib
    exact ⟨said_size hx.ta (hear_size hh), hx.tb, by show (saidT x.sa t).length ≤ _; omega, by show x.sb.length ≤ _; omega, by show x.ia ≤ _; omega, by show tookT e x.ib ≤ _; omega⟩
/-- Which seeds and events make a greeting. -/
def GreetP (seeds : List ByteArray) (events : List Int) : Prop := (seeds.length = 4 ∧ events.length ≤ 60) ∧ ∀ e ∈ events, 0 ≤ e

end Go.Proofs.YtkjjdoadjhjmbaeGreatDoor
