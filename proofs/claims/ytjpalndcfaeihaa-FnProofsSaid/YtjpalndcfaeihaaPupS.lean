/- What the drawing of puppets behind players keeps. No condition. -/
import Derived.Test.YtjpalndcfaeihaaLstQ
namespace Go.Proofs.Ytjpalndcfaeihaa
set_option linter.unusedVariables false
set_option linter.unusedSimpArgs false
open Go.RowKit

/-- What the drawing of puppets keeps: w is the world of the call, wb that in which the cursor was made. -/
structure PupK (w wb : World) (v : Value) (ls : List RPlayer) (n cap : Nat) (a : Option Addr) (b B : Nat) (u : Value) (zs : List Int) (W : World) : Prop where
  pl : Held 57 2 W wb.heap.size B v ls.length (flatPlayer ls)
  out : OwnI W B u zs
  st : St w a n cap W b
  cu : b < wb.heap.size
  bs : wb.heap.size ≤ B
  sz : B ≤ W.heap.size
  le : w.heap.size ≤ wb.heap.size
section
variable {w wb : World} {v : Value} {ls : List RPlayer} {n cap : Nat} {a : Option Addr} {b B : Nat} {u u' : Value} {zs zs' : List Int} {W W' : World}
theorem PupK.draw (K : PupK w wb v ls n cap a b B u zs W) (hs : St w a n cap W' b) (hg : W.grownBy W' (some b)) : PupK w wb v ls n cap a b B u zs W' :=
  ⟨K.pl.kept hg (fun k hk => by have := Option.some.inj hk; have := K.cu; omega), OwnI.kept K.out hg (sep_of fun k e1 e2 => by have := (K.out.lt k e1).1; have := Option.some.inj e2; have := K.cu; have := K.bs; omega), hs, K.cu, K.bs, Nat.le_trans K.sz hg.size, K.le⟩
theorem PupK.more (K : PupK w wb v ls n cap a b B u zs W) (o : Obj) (ho : OwnI W' B u' zs') (hg : (W.alloc o).grownBy W' u.ownBlock) : PupK w wb v ls n cap a b B u' zs' W' := by
  have hbs := K.bs
  have hsz := K.sz
  have h1 : W.grownBy (W.alloc o) u.ownBlock := grown_of_below ((Below.refl W.heap.size W).alloc (Nat.le_refl _) o) _
  have h2 := World.grownBy.trans h1 hg
  have hb : Below wb.heap.size W W' := (Below.refl _ _).grown h2 (by omega) (fun k hk => by have := (K.out.lt k hk).1; omega)
  exact ⟨K.pl.kept h2 (fun k hk => .inr (K.out.lt k hk).1), ho, st_other K.st K.le K.cu hb, K.cu, K.bs, Nat.le_trans K.sz h2.size, K.le⟩
end
end Go.Proofs.Ytjpalndcfaeihaa
