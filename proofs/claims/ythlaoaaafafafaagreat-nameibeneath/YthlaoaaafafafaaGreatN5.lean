/- Ours. -/
import Derived.Test.YthlaoaaafafafaaGreatN3
set_option maxRecDepth 100000
set_option maxHeartbeats 16000000
namespace Go.Proofs.YthlaoaaafafafaaGreat
open Go Go.RowKit Go.Maps
section
variable {s : SS} {U:Int->Int} {be fo pa:Bool} {k c:Nat} {part:ByteArray} {rest:List ByteArray} {dir:Int} {slash:Bool} {steps:Nat}
section
variable (h : dirE s dir=0) (hd:ddB part=false) (hE:lukE s dir part=0)
include h hd hE
end
end
def kid (s:SS) (x y:Int):Prop:=∃ m ∈ s.L,(m.ino:Int)=x/\∃ e ∈ m.ds,e.2=y
def Rn (s:SS) (d:Int):Nat->Int->Prop
 | 0,x=>x=d
 | n+1,x=>Rn s d n x ∨ ∃ y,Rn s d n y/\kid s y x
def Reach8 (s:SS) (d x:Int):Prop:=∃ n,Rn s d n x
section
variable {s : SS} {d x y:Int}
theorem reach_self (s:SS) (d:Int):Reach8 s d d:=⟨0,rfl⟩
theorem Reach8.step (h:Reach8 s d x) (k:kid s x y):Reach8 s d y:=by
 obtain ⟨n,h⟩:=h
 exact ⟨n+1,.inr ⟨x,h,k⟩⟩
theorem Reach8.ind {Q:Int->Prop} (h:Reach8 s d x) (h0:Q d) (hs:∀ a b,Q a->kid s a b->Q b):Q x:=by
 obtain ⟨n,h⟩:=h
 induction n generalizing x with
 | zero=>have:x=d:=h;subst this;exact h0
 | succ n ih =>
  rcases h with h | ⟨y,h1,h2⟩
  . exact ih h
  . exact hs y x (ih h1) h2
end
end Go.Proofs.YthlaoaaafafafaaGreat
