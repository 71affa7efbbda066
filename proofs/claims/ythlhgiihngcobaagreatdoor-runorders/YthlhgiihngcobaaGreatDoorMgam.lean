/-
  PROVED HERE: plain facts, with no word of the program; plain facts, with no word of the program.
  Conditions: none but those that each theorem's own premises say.
-/
import Derived.Test.YthlhgiihngcobaaGreatDoorMgal
import Derived.Test.YthlhgiihngcobaaGreatDoorMgak
set_option maxHeartbeats 32000000
set_option maxRecDepth 100000
namespace Go.Proofs.YthlhgiihngcobaaGreatDoor
theorem zjW{ds:List Int}{p:List Int->Bool}:∀(f:Nat) (b o:List Int),b.length+f=ds.length->zcC ds (b++o)->o.length=f->p (b++o)=true->(tryO ds p f b).isSome=true:=by
 intro f
 induction f with
 | zero =>intro b o _ _ ho hp;obtain rfl:=List.length_eq_zero_iff.1 ho;rw[List.append_nil]at hp;rw[tryO,if_pos hp];rfl
 | succ f ih =>
   intro b o hb hB ho hp;cases o with
   | nil=>simp at ho
   | cons t o =>
     have hq:b++t::o=(b++[t])++o:=by simp
     have h1:=ih (b++[t]) o (by simp;omega) (hq ▸hB) (by simpa using ho) (hq ▸hp);have htd:t∈ds:=hB.all t (by simp);have htb:t ∉ b:=fun hm=>by have:=hB.once;rw[List.nodup_append]at this;exact this.2.2 t hm t (by simp) rfl
     rw[tryO];cases hf:ds.findSome? fun t=>if b.contains t=true then none else tryO ds p f (b++[t])with
     | some r=>rfl
     | none =>have:=List.findSome?_eq_none_iff.1 hf t htd;rw[if_neg (by simpa using htb)]at this;rw[this]at h1;cases h1
end Go.Proofs.YthlhgiihngcobaaGreatDoor
namespace Go.Proofs.YthlhgiihngcobaaGreatDoor
def za4(d:List Op3):Option (List Int):=(zbm (zam d 36)).map fun b=>weaveL b ((zac d).filter fun x=>!inB b x)
theorem zes{d:List Op3}(hd:∀o∈d,1<=o.1/\o.1<=6){e:zaa}(he:e∈zam d 36):e.1∈zac d/\e.2∈zac d:=by
 have h1:=(List.mem_filter.1 he).2;unfold zdD at h1;obtain⟨p,hp,h2⟩:=List.any_eq_true.1 h1;have h3:zcp d p=e:=by simpa using h2
 obtain⟨i,j,hij,hj,_,rfl⟩:=zaQ.1 hp;rw[<-h3];unfold zcp;simp only[Int.toNat_natCast];have m1:=zaj (l:=d) (i:=i) (by omega);have m2:=zaj (l:=d) (i:=j) hj;exact⟨zaz.2 ⟨(hd _ m1).1,(hd _ m1).2,zfy.2 ⟨_,m1,rfl⟩⟩,zaz.2 ⟨(hd _ m2).1,(hd _ m2).2,zfy.2 ⟨_,m2,rfl⟩⟩⟩
theorem zgY{d:List Op3}(hd:∀o∈d,1<=o.1/\o.1<=6):zim (zac d) (zam d 36)=za4 d:=by
 unfold za4;refine zd3 (zbW _ _) (za5 _) (fun x hx=>⟨(zaz.1 hx).1,(zaz.1 hx).2.1⟩) fun x hx=>?_;obtain⟨e,he,h2⟩:=(zdn _ x).1 hx;rcases h2 with rfl | rfl
 ·exact(zes hd he).1
 ·exact(zes hd he).2
end Go.Proofs.YthlhgiihngcobaaGreatDoor
