import Derived.Test.YtefjljdgdoklmaaM23
import Derived.Test.YtefjljdgdoklmaaM24
import Derived.Test.YtefjljdgdoklmaaM25
/-
  Any call of a script, of both file systems.
-/
namespace Go.Proofs.Ytefjljdgdoklmaa
open Go.RowKit Go.Maps Go.Sort
theorem act_any {B i f q : Nat} {w : World} {d : Disk} {r : RDisk} {A C : Nat → Prop} {rho : Nat → Nat} (hm : Mem2 B f q w d r A C) (hB : B ≤ w.heap.size) (hi : Inv i rho d r) (hb : i ≤ 900) (x : ActP) (hs : x.small) (hbs : Bytes w (.slice x.ba x.bn x.bc) x.bs) (hks : Ints w x.ka x.kn x.ks) (hn : -9223372036854775808 ≤ x.N ∧ x.N ≤ 9223372036854775807) (hmm : x.M ≤ 9223372036854775807) (he : ∀ z, z ∈ x.ks → z ≤ 9223372036854775807 ∧ -9223372036854775808 ≤ z)
    (hbb : ∀ p o, x.ba = some ⟨p, o, none⟩ → 0 < x.bn → p < B) (hkb : ∀ p o, x.ka = some ⟨p, o, none⟩ → 0 < x.kn → p < B) :
    Calls Try.prog 25 #[.pointer (some ⟨f, 0, none⟩), .pointer (some ⟨q, 0, none⟩), .agg #[.int .i64 x.kind, .string x.s, .string x.t, .slice x.ba x.bn x.bc, .int .i64 x.N, .int .i64 x.M, .int .i64 x.E, .slice x.ka x.kn x.kc]] w fun e w' => e = .returned (.bool true) ∧ Fin B i f q A C w w' := by
  obtain ⟨h1, h2, h3, h4⟩ := hs
  have hp := pickZ_le x.kind
  have : pickZ x.kind 12 = 0 ∨ pickZ x.kind 12 = 1 ∨ pickZ x.kind 12 = 2 ∨ pickZ x.kind 12 = 3 ∨ pickZ x.kind 12 = 4 ∨ pickZ x.kind 12 = 5 ∨ pickZ x.kind 12 = 6 ∨ pickZ x.kind 12 = 7 ∨ pickZ x.kind 12 = 8 ∨ pickZ x.kind 12 = 9 ∨ pickZ x.kind 12 = 10 ∨ pickZ x.kind 12 = 11 := by omega
  rcases this with e | e | e | e | e | e | e | e | e | e | e | e
  · exact act_0 hm hB hi hb x.kind x.N x.M x.E x.s x.t x.ba x.ka x.bn x.bc x.kn x.kc h3 e
  · exact act_1 hm hB hi hb x.kind x.N x.M x.E x.s x.t x.ba x.ka x.bn x.bc x.kn x.kc h3 x.bs hbs hbb h1 e
  · exact act_2 hm hB hi hb x.kind x.N x.M x.E x.s x.t x.ba x.ka x.bn x.bc x.kn x.kc h3 e
  · exact act_3 hm hB hi hb x.kind x.N x.M x.E x.s x.t x.ba x.ka x.bn x.bc x.kn x.kc  e
  · exact act_4 hm hB hi hb x.kind x.N x.M x.E x.s x.t x.ba x.ka x.bn x.bc x.kn x.kc h3 h4 e
  · exact act_5 hm hB hi hb x.kind x.N x.M x.E x.s x.t x.ba x.ka x.bn x.bc x.kn x.kc h3 e
  · exact act_6 hm hB hi hb x.kind x.N x.M x.E x.s x.t x.ba x.ka x.bn x.bc x.kn x.kc h3 hn.2 hmm e
  · exact act_7 hm hB hi x.kind x.N x.M x.E x.s x.t x.ba x.ka x.bn x.bc x.kn x.kc hn.2 e
  · exact act_8 hm hB hi x.kind x.N x.M x.E x.s x.t x.ba x.ka x.bn x.bc x.kn x.kc hn.2 e
  · exact act_9 hm hB hi hb x.kind x.N x.M x.E x.s x.t x.ba x.ka x.bn x.bc x.kn x.kc x.ks hks hkb he (by omega) hn.2 hn.1 e
  · exact act_10 hm hB hi hb x.kind x.N x.M x.E x.s x.t x.ba x.ka x.bn x.bc x.kn x.kc h3 e
  · exact act_11 hm hB hi hb x.kind x.N x.M x.E x.s x.t x.ba x.ka x.bn x.bc x.kn x.kc h3 x.bs hbs hbb h1 e
end Go.Proofs.Ytefjljdgdoklmaa
