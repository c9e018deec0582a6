import Derived.Test.YtblkkhfdeaaidaaGreatDoorDrSetsAndDrNa
import Derived.Test.YtblkkhfdeaaidaaGreatDoorTxMathAndDerMath
import Derived.Test.YtblkkhfdeaaidaaGreatDoorMathAndTxSc
set_option maxHeartbeats 6400000
set_option maxRecDepth 100000
namespace Go.Proofs.YtblkkhfdeaaidaaGreatDoor
open Go.RowKit
section
variable{w w':World}{pb B G:Nat}{rv:Value}{p:bQ}{l:List UInt8}
theorem Jp{dn:Nat}{X:List UInt8->Prop}(h:aZ w pb B rv p)(hd:∀args w,(callFunc dn args).run Tryz.prog w= .ok (.enter dn args) w)(hc:p.N≠0->Calls Tryz.prog dn #[.pointer (some ⟨pb,0,none⟩)] w fun e w'=> ∃o,X o/\e= .returned (.string ⟨o.toArray⟩)/\Below w.heap.size w w'):Calls Tryz.prog 15 #[.pointer (some ⟨pb,0,none⟩),.func (.func dn) #[.pointer (some ⟨pb,0,none⟩)] #[]] w fun e w'=> ∃v,e= .returned v/\fP w' v pb B rv p (iL p X)/\w'=w:=by
 by_cases hN:p.N=0
 ·exact(Jm h hN).mono fun e w' ⟨h1,h2⟩=>⟨_,h1,by rw[h2];exact(Jl h).mono fun p' o hh=>⟨hh.1,by rw[if_pos hN];exact hh.2⟩,h2⟩
 ·exact(Jo h hN).mono fun e w' ⟨h1,h2⟩=>⟨_,h1,by rw[h2];exact(afj h hd (hc hN)).mono fun p' o hh=>⟨hh.1,by rw[if_neg hN];exact hh.2⟩,h2⟩
theorem afq(h:aZ w pb B rv p)(hE:cB G w)(hG:G<=pb)(hs:l.length<=281474976710656)(hl:p.tx.length+l.length<=4611686018427387904):Calls Tryz.prog 6 #[.pointer (some ⟨pb,0,none⟩),.string ⟨l.toArray⟩] w fun e w'=> ∃v,e= .returned v/\fP w' v pb B rv p (iM p l)/\Below w.heap.size w w':=by
 have hpb:=h.below;have hm:p.N≠0->aD p.T p.N p.R=true:=h.good.resolve_left;obtain⟨W1,hW1⟩:∃V,w.alloc (.cells #[.pointer (some ⟨pb,0,none⟩)] 41)=V:=⟨_,rfl⟩;have hB1:Below w.heap.size w W1:=by rw[<-hW1];exact(Below.refl _ _).alloc (Nat.le_refl _) _
 have hx1:=heap_alloc_new w (.cells #[.pointer (some ⟨pb,0,none⟩)] 41);rw[hW1]at hx1;obtain⟨b2,hb2⟩:∃y,w.heap.size=y:=⟨_,rfl⟩;rw[hb2]at hx1;have cp:=NQ ⟨l.toArray⟩ ⟨#[61,32]⟩ W1;have hll:(Lib.trimPrefix l [61,32]).length<=l.length:=by unfold Lib.trimPrefix;split<;>simp
 have hQ:=fun p' o=>iM.eq_1 p l p' o;obtain⟨t,ht⟩:∃x,Lib.trimPrefix l [61,32]=x:=⟨_,rfl⟩;obtain⟨k,hk⟩:∃x,Lib.hasPrefix l [61,32]=x:=⟨_,rfl⟩;simp only[ht,hk]at cp hQ hll;obtain⟨W2,hW2⟩:∃V,W1.alloc (.cells #[.string ⟨t.toArray⟩] 9)=V:=⟨_,rfl⟩;have hB2:Below W1.heap.size W1 W2:=by rw[<-hW2];exact(Below.refl _ _).alloc (Nat.le_refl _) _
 have hx2:=heap_alloc_new W1 (.cells #[.string ⟨t.toArray⟩] 9);rw[hW2]at hx2;obtain⟨b5,hb5⟩:∃y,W1.heap.size=y:=⟨_,rfl⟩;rw[hb5]at hx2;have k0:=(hB2.block _ (Array.getElem?_eq_some_iff.1 hx1).1).trans hx1;have k1:=(h.later hB1).later hB2;have k2:=(hE.below hB1 (by omega)).below hB2 (by have:=hB1.size;omega);have k3:Below w.heap.size w W2:=hB1.trans (hB2.mono hB1.size);have c2:=ai (i:=0) k0 rfl;have HW:Hid (w.alloc (.cells #[.pointer (some ⟨pb,0,none⟩)] 41)=W1/\w.heap.size=b2/\W1.alloc (.cells #[.string ⟨t.toArray⟩] 9)=W2/\W1.heap.size=b5):=⟨hW1,hb2,hW2,hb5⟩;have HB:Hid (Below w.heap.size w W2):=k3;clear h hE hB1 hx1 hW1 hb2 hW2 hb5 hB2;cases k with
 |true=>
  have hd:=(afk k1 k2 hG (by omega) k0 hx2).mono fun p' o hh=>(hQ p' o).mpr (by rw[if_pos rfl];exact hh);have HD:Hid (fP W2 (.func (.func 11) #[] #[.pointer (some ⟨b2,0,none⟩),.pointer (some ⟨b5,0,none⟩)]) pb B rv p (iM p l)):=hd;clear hQ hd k0 k1 k2 k3 hx2 hk ht
  go_enter Tryz.func6,Tryz.ntmps6
  go_upto_region 1 with fail
  rw[HW.out.1];rw[HW.out.2.1]
  go_upto_region 2 with
   (go_at_call 10;refine cp.mono ?_;rintro e w2 ⟨rfl,h2⟩
    obtain rfl:W1=w2:=h2.symm
    clear cp)
  rw[HW.out.2.2.1];rw[HW.out.2.2.2]
  go_wp2_with fail
  go_ret;exact⟨_,rfl,HD.out,HB.out⟩
 |false=>
  have hQ:=fun p' o=>(hQ p' o).mpr;simp only[Bool.false_eq_true,if_false]at hQ
  have HH:(l=[102,114,101,115,104]/\fP W2 (.func (.func 13) #[.pointer (some ⟨pb,0,none⟩)] #[]) pb B rv p (iM p l))\/(l=[116,97,107,101]/\fP W2 (.func (.func 14) #[.pointer (some ⟨pb,0,none⟩)] #[]) pb B rv p (iM p l))\/(l=[115,101,116,115]/\Calls Tryz.prog 15 #[.pointer (some ⟨pb,0,none⟩),.func (.func 16) #[.pointer (some ⟨pb,0,none⟩)] #[]] W2 fun e w'=> ∃v,e= .returned v/\fP w' v pb B rv p (iM p l)/\w'=W2)\/(l=[115,104,111,114,116]/\Calls Tryz.prog 15 #[.pointer (some ⟨pb,0,none⟩),.func (.func 17) #[.pointer (some ⟨pb,0,none⟩)] #[]] W2 fun e w'=> ∃v,e= .returned v/\fP w' v pb B rv p (iM p l)/\w'=W2)\/(l=[116,97,98,108,101]/\Calls Tryz.prog 15 #[.pointer (some ⟨pb,0,none⟩),.func (.func 18) #[.pointer (some ⟨pb,0,none⟩)] #[]] W2 fun e w'=> ∃v,e= .returned v/\fP w' v pb B rv p (iM p l)/\w'=W2)\/(l=[115,104,111,119]/\Calls Tryz.prog 15 #[.pointer (some ⟨pb,0,none⟩),.func (.func 19) #[.pointer (some ⟨pb,0,none⟩)] #[]] W2 fun e w'=> ∃v,e= .returned v/\fP w' v pb B rv p (iM p l)/\w'=W2)\/(((l==[102,114,101,115,104])=false/\(l==[116,97,107,101])=false/\(l==[115,101,116,115])=false/\(l==[115,104,111,114,116])=false/\(l==[116,97,98,108,101])=false/\(l==[115,104,111,119])=false)/\Calls Tryz.prog 20 #[.pointer (some ⟨pb,0,none⟩),.string ⟨l.toArray⟩] W2 fun e w'=> ∃v,e= .returned v/\fP w' v pb B rv p (iM p l)/\Below w.heap.size w w'):=by
   by_cases h0:l=[102,114,101,115,104]
   ·exact Or.inl ⟨h0,_,_,_,_,rfl,rfl,fun args w=>by simp[callFunc,Tryz.func13,Tryz.f13 ],(XP k1).mono fun e w' ⟨a,b,c⟩=>⟨_,_,B,rv,hQ _ _ (by rw[if_pos h0];exact⟨rfl,rfl⟩),a,b,c,.inl ⟨rfl,rfl,rfl⟩⟩⟩
   by_cases h1:l=[116,97,107,101]
   ·exact Or.inr<|Or.inl ⟨h1,_,_,_,_,rfl,rfl,fun args w=>by simp[callFunc,Tryz.func14,Tryz.f14 ],(XQ k1 k2 hG (by omega)).mono fun e w' ⟨a,⟨B1,r1,b,d⟩,c⟩=>⟨_,_,B1,r1,hQ _ _ (by rw[if_neg h0,if_pos h1];exact⟨rfl,rfl⟩),a,b,c,d⟩⟩
   by_cases h2:l=[115,101,116,115]
   ·exact Or.inr<|Or.inr<|Or.inl ⟨h2,(Jp (X:=yt p) k1 (fun args w=>by simp[callFunc,Tryz.func16,Tryz.f16 ]) fun hN=>afi k1 k2 hG (hm hN)).mono fun e w' ⟨v,a,b,c⟩=>⟨v,a,b.mono fun p' o hh=>hQ p' o (by rw[if_neg h0,if_neg h1,if_pos h2];exact hh),c⟩⟩
   by_cases h3:l=[115,104,111,114,116]
   ·exact Or.inr<|Or.inr<|Or.inr<|Or.inl ⟨h3,(Jp (X:=fun o=> ∃O,nN p.N p.R O/\o=jh O) k1 (fun args w=>by simp[callFunc,Tryz.func17,Tryz.f17 ]) fun hN=>(YA k1 k2 hG (hm hN)).mono fun e w' ⟨O,a,b,c⟩=>⟨_,⟨O,a,rfl⟩,b,c⟩).mono fun e w' ⟨v,a,b,c⟩=>⟨v,a,b.mono fun p' o hh=>hQ p' o (by rw[if_neg h0,if_neg h1,if_neg h2,if_pos h3];exact hh),c⟩⟩
   by_cases h4:l=[116,97,98,108,101]
   ·exact Or.inr<|Or.inr<|Or.inr<|Or.inr<|Or.inl ⟨h4,(Jp (X:=vU p) k1 (fun args w=>by simp[callFunc,Tryz.func18,Tryz.f18 ]) fun hN=>adD k1 k2 hG (hm hN)).mono fun e w' ⟨v,a,b,c⟩=>⟨v,a,b.mono fun p' o hh=>hQ p' o (by rw[if_neg h0,if_neg h1,if_neg h2,if_neg h3,if_pos h4];exact hh),c⟩⟩
   by_cases h5:l=[115,104,111,119]
   ·exact Or.inr<|Or.inr<|Or.inr<|Or.inr<|Or.inr<|Or.inl ⟨h5,(Jp (X:=fun o=>o=jh [((oP p.T p.N p.R).length:Int)]) k1 (fun args w=>by simp[callFunc,Tryz.func19,Tryz.f19 ]) fun hN=>(Yz k1 k2 hG (hm hN)).mono fun e w' ⟨a,b⟩=>⟨_,rfl,a,b⟩).mono fun e w' ⟨v,a,b,c⟩=>⟨v,a,b.mono fun p' o hh=>hQ p' o (by rw[if_neg h0,if_neg h1,if_neg h2,if_neg h3,if_neg h4,if_pos h5];exact hh),c⟩⟩
   exact Or.inr<|Or.inr<|Or.inr<|Or.inr<|Or.inr<|Or.inr<|⟨⟨beq_eq_false_iff_ne.2 h0,beq_eq_false_iff_ne.2 h1,beq_eq_false_iff_ne.2 h2,beq_eq_false_iff_ne.2 h3,beq_eq_false_iff_ne.2 h4,beq_eq_false_iff_ne.2 h5⟩,(afp k1 k2 hG hs).mono fun e w' ⟨v,a,b,c⟩=>⟨v,a,b.mono fun p' o hh=>hQ p' o (by rw[if_neg h0,if_neg h1,if_neg h2,if_neg h3,if_neg h4,if_neg h5];exact hh),HB.out.trans (c.mono HB.out.size)⟩⟩
  clear hQ k0 k1 k2 k3 hx2 hk ht hs hl hll hm;rcases HH with⟨rfl,hd⟩|⟨rfl,hd⟩|⟨rfl,og⟩|⟨rfl,og⟩|⟨rfl,og⟩|⟨rfl,og⟩|⟨⟨q0,q1,q2,q3,q4,q5⟩,og⟩
  ·have HD:Hid (fP W2 (.func (.func 13) #[.pointer (some ⟨pb,0,none⟩)] #[]) pb B rv p (iM p [102,114,101,115,104])):=hd
   clear hd
   go_enter Tryz.func6,Tryz.ntmps6
   go_upto_region 1 with fail
   rw[HW.out.1];rw[HW.out.2.1]
   go_upto_region 2 with
    (go_at_call 10;refine cp.mono ?_;rintro e w2 ⟨rfl,h2⟩
     obtain rfl:W1=w2:=h2.symm
     clear cp)
   rw[HW.out.2.2.1];rw[HW.out.2.2.2]
   go_wp2_with fail
   go_ret;exact⟨_,rfl,HD.out,HB.out⟩
  ·have HD:Hid (fP W2 (.func (.func 14) #[.pointer (some ⟨pb,0,none⟩)] #[]) pb B rv p (iM p [116,97,107,101])):=hd
   clear hd
   go_enter Tryz.func6,Tryz.ntmps6
   go_upto_region 1 with fail
   rw[HW.out.1];rw[HW.out.2.1]
   go_upto_region 2 with
    (go_at_call 10;refine cp.mono ?_;rintro e w2 ⟨rfl,h2⟩
     obtain rfl:W1=w2:=h2.symm
     clear cp)
   rw[HW.out.2.2.1];rw[HW.out.2.2.2]
   go_wp2_with fail
   go_ret;exact⟨_,rfl,HD.out,HB.out⟩
  iterate 4
   ·skip
    go_enter Tryz.func6,Tryz.ntmps6
    go_upto_region 1 with fail
    rw[HW.out.1];rw[HW.out.2.1]
    go_upto_region 2 with
     (go_at_call 10;refine cp.mono ?_;rintro e w2 ⟨rfl,h2⟩
      obtain rfl:W1=w2:=h2.symm
      clear cp)
    rw[HW.out.2.2.1];rw[HW.out.2.2.2]
    go_wp2_with
     (go_at_call 15;refine og.mono ?_;rintro e w4 ⟨v,rfl,h4,h5⟩
      obtain rfl:W2=w4:=h5.symm;have HD:Hid (fP W2 v pb B rv p (iM p _)):=h4
      clear og h4)
    go_ret;exact⟨_,rfl,HD.out,HB.out⟩
  ·skip
   go_enter Tryz.func6,Tryz.ntmps6
   go_upto_region 1 with fail
   rw[HW.out.1];rw[HW.out.2.1]
   go_upto_region 2 with
    (go_at_call 10;refine cp.mono ?_;rintro e w2 ⟨rfl,h2⟩
     obtain rfl:W1=w2:=h2.symm
     clear cp)
   rw[HW.out.2.2.1];rw[HW.out.2.2.2]
   go_wp2_with
    (go_at_call 20;refine og.mono ?_;rintro e w4 ⟨v,rfl,h4,h5⟩
     have HD:Hid (fP w4 v pb B rv p (iM p l)/\Below w.heap.size w w4):=⟨h4,h5⟩
     clear og h4 h5)
   go_ret;exact⟨_,rfl,HD.out⟩
end
end Go.Proofs.YtblkkhfdeaaidaaGreatDoor
namespace Go.Proofs.YtblkkhfdeaaidaaGreatDoor
open Go.Shelf Go.RowKit
theorem afr{P:Program}(w:World)(base:Nat)(t u ty e:TypeId)(i:TypeInfo)(ht:P.underlying t=some (.slice e))(hu:P.underlying u=some .string)(hi:P.info? e=some i)(hz:i.zero=some (.int .u8 0))(hsize:i.size=1)(hby:i.bytes=1)
 (v:Value) (n:Nat) (xs:List Value) (hown:w.ownsRowF base e 1 v n xs) (s:ByteArray) (h63:n+s.size<=maxLen) (hbytes:n+s.size<=140737488355328) (hbase:base<=w.heap.size):
 ∃v' w',(Builtin.append_ #[t,u] ty #[v,.string s]).run P w= .ok v' w'/\w'.ownsRowF base e 1 v' (n+s.size) (xs++Lib.strCells s)/\w.grownBy w' v.ownBlock/\∀g,v'.ownBlock=some g->v.ownBlock=some g\/w.heap.size<=g:=by
 obtain⟨v',w',hr,h2,h3,_⟩:=Lib.run_append_own_stringF (P:=P) w base t u ty e i ht hu hi hz hsize hby v n xs hown s h63 hbytes hbase;refine⟨v',w',hr,h2,h3,fun g hg=> ?_⟩;rcases hown.2 with⟨rfl,rfl⟩|⟨b,cap,cur,fz,rfl,hbg,hb,hfz,hnc,hcm,hcs,htake⟩
 ·obtain⟨v2,w2,hr2,k2,_⟩:=Lib.run_append_own_stringF (P:=P) w w.heap.size t u ty e i ht hu hi hz hsize hby (.slice none 0 0) 0 xs ⟨hown.1,.inl ⟨rfl,rfl⟩⟩ s h63 hbytes (Nat.le_refl _)
  rw[hr]at hr2;injection hr2 with e1 e2;subst e1 e2;exact .inr (k2.lt g hg).1
 ·have hxl:xs.length=n:=by simpa using hown.1
  have hsmall:n+s.size<=9223372036854775807:=by simp only[maxLen]at h63;omega
  by_cases hroom:n+s.size<=cap
  ·have hr2:=Lib.run_append_room_stringF (P:=P) w t u ty e i ht hu hi hsize b n cap cur fz hb (by simpa using hfz) s hroom (by simp at hcs;omega)
   rw[hr]at hr2;injection hr2 with e1 e2;rw[e1]at hg;exact .inl hg
  ·have hr2:=Lib.run_append_grow_string (P:=P) w t u ty e i (.int .u8 0) ht hu hi hz ⟨b,0,none⟩ n cap xs (by rw[hsize];simpa using hxl) (hown.cells (g:=b) rfl) s (by omega) (by omega) (by rw[hby];exact growslice_fits (by omega) (by omega))
   rw[hr]at hr2;injection hr2 with e1 e2;rw[e1]at hg;injection hg with hg;exact .inr (Nat.le_of_eq hg)
structure Jq(b:Nat)(g:Option Nat)(w w':World):Prop where
 os:w'.os=w.os
 tape:w'.tape=w.tape
 output:w'.output=w.output
 size:w.heap.size<=w'.heap.size
 block:∀k,k<w.heap.size->k≠b->g≠some k->w'.heap[k]?=w.heap[k]?
section
variable{w:World}{B b:Nat}{bs:List Value}
theorem afs(h:Lib.IsBuilderF 32 5 B b bs w):Calls Tryz.prog 21 #[.pointer (some ⟨b,0,none⟩)] w fun e w'=>e= .returned (.tuple #[])/\Lib.BuilderAtF 32 5 B b (.pointer (some ⟨b,0,none⟩)) bs w'/\But b w w'/\w'.heap.size=w.heap.size/\w'.cell? ⟨b,1,none⟩=w.cell? ⟨b,1,none⟩:=by
 rcases h with h|h
 ·refine(Any.Builder_copyCheck_fresh (ρ:=Tryz.buW_ren) { Tryz.buW with } Tryz.buWx.toX72 b w h.cell0 h.shape h.frozen0).mono ?_
  rintro e w' ⟨rfl,rfl⟩;exact⟨rfl,h.used _,But.set _ _ _,by simp,World.cell?_setCell_other _ _ _ _ (by simp)⟩
 ·refine(Any.Builder_copyCheck_used (ρ:=Tryz.buW_ren) { Tryz.buW with } Tryz.buWx.toX72 b w h.cell0).mono ?_
  rintro e w' ⟨rfl,rfl⟩;exact⟨rfl,h,But.refl _ _,rfl,rfl⟩
theorem aft{P:Program}{ops:Array Oper}{rest:List Oper}{o:Oper}{a:Act}{Q:Exit->Act->World->Prop}{sl x:Operand}{t u e:TypeId}{i:TypeInfo}{base n:Nat}{v:Value}{xs:List Value}{s:ByteArray}(hgd:o.guard=none)(ho:o.op= .call { callee:= .builtin .append,args:= #[sl,x],argTypes:= #[t,u] })
 (ht:P.underlying t=some (.slice e)) (hu:P.underlying u=some .string) (hi:P.info? e=some i) (hz:i.zero=some (.int .u8 0)) (hsize:i.size=1) (hby:i.bytes=1) (hs:a.eval sl=v) (hx:a.eval x= .string s) (hown:w.ownsRowF base e 1 v n xs) (hb:n+s.size<=140737488355328) (hbase:base<=w.heap.size)
 (h:∀v' w',w'.ownsRowF base e 1 v' (n+s.size) (xs++Lib.strCells s)->w.grownBy w' v.ownBlock->(∀g,v'.ownBlock=some g->v.ownBlock=some g\/w.heap.size<=g)->wpList P ops Q rest (a.put o.dst v') w'):wpList P ops Q (o::rest) a w:=by
 obtain⟨v',w',k1,k2,k3,k4⟩:=afr (P:=P) w base t u o.type e i ht hu hi hz hsize hby v n xs hown s (by unfold maxLen;omega) hb hbase;refine wpList_plain hgd fun K hK=> ?_;unfold Oper.wp execOp;simp only[ho,resolve,invoke,builtin,Sem.run_bind,Sem.run_pure,Result.andThen_ok,List.map_toArray,List.map_cons,List.map_nil,hs,hx,k1];exact hK _ _ (h v' w' k2 k3 k4)
theorem afu{s:ByteArray}(h:Lib.IsBuilderF 32 5 B b bs w)(hlen:bs.length+s.size<=140737488355328)(hBw:B<=w.heap.size):
 Calls Tryz.prog 7 #[.pointer (some ⟨b,0,none⟩),.string s] w fun e w'=>e= .returned (.tuple #[.int .i64 s.size,.nilIface])/\Lib.BuilderAtF 32 5 B b (.pointer (some ⟨b,0,none⟩)) (bs++Lib.strCells s) w'/\∀v0,w.cell? ⟨b,1,none⟩=some v0->∃v1,w'.cell? ⟨b,1,none⟩=some v1/\Jq b v0.ownBlock w w'/\∀g,v1.ownBlock=some g->v0.ownBlock=some g\/w.heap.size<=g:=by
 obtain⟨i0,hi,hz0,hz1,hz2⟩:=info_parts Tryz.buWx.infoByte;have cc:=afs h;have HB:Hid (bs.length+s.size<=140737488355328/\B<=w.heap.size):=⟨hlen,hBw⟩;clear h hlen hBw
 go_enter Tryz.func7,Tryz.ntmps7
 go_wp2_with (go_at_call 21;refine cc.mono ?_)
 rintro e w1 ⟨rfl,h1,h2,h3,h4⟩;obtain⟨hB,v,hbk,hown,hne⟩:=h1;have c0:w1.cell? ⟨b,0,none⟩=some (.pointer (some ⟨b,0,none⟩)):=by rw[Lib.cell_of_heap hbk];rfl
 have c1:w1.cell? ⟨b,1,none⟩=some v:=by rw[Lib.cell_of_heap hbk];rfl
 have H1:Hid (But b w w1/\w1.heap.size=w.heap.size/\w1.cell? ⟨b,1,none⟩=w.cell? ⟨b,1,none⟩):=⟨h2,h3,h4⟩;clear cc h2 h3 h4
 go_wp2_with (at_builtin;refine aft (t:=30) (u:=9) rfl rfl Tryz.underlying30 Tryz.underlying9 hi hz0 hz1 hz2 rfl rfl hown HB.out.1 ?c5 ?_)
 case c5=>have:=HB.out.2;have:=H1.out.2.1;omega
 intro v' w2 hown' hgrow hat;have hlt:b<w1.heap.size:=(Array.getElem?_eq_some_iff.1 hbk).1
 have hb2:w2.heap[b]?=some (.cells #[.pointer (some ⟨b,0,none⟩),v] 32 (0,0)):=by
  rw[hgrow.block b hlt (fun e=>hne e.symm)];exact hbk
 have d0:w2.cell? ⟨b,0,none⟩=some (.pointer (some ⟨b,0,none⟩)):=by rw[Lib.cell_of_heap hb2];rfl
 have d1:w2.cell? ⟨b,1,none⟩=some v:=by rw[Lib.cell_of_heap hb2];rfl
 have f1:w2.frozen? ⟨b,1,none⟩=false:=Lib.frozen_of_heap hb2 1
 obtain⟨ao,n',cap,rfl⟩:∃ao n' cap,v'= .slice ao n' cap:=by
  rcases hown'.2 with⟨hv,_⟩|⟨g,cap,cur,fz,hv,_⟩<;>exact⟨_,_,_,hv⟩
 go_wp2
 refine bodyPost_ret (v:= .tuple #[.int .i64 s.size,.nilIface]) (by simp[results,Tryz.results7,go_sem]) rfl ⟨rfl,?_,fun v0 hv0=>⟨_,World.cell?_setCell_same _ _ _ d1,?_,?_⟩⟩
 ·exact Lib.BuilderAtF.put hB hb2 (by simpa [Lib.strCells_length] using hown') (by decide)
 ·rw[<-H1.out.2.2,c1]at hv0
  cases hv0;obtain⟨q1,q2,q3⟩:=H1.out;have q4:But b w2 (w2.setCell ⟨b,1,none⟩ (.slice ao n' cap)):=But.set _ _ _;have hsz:=hgrow.size
  exact⟨q4.os.trans (hgrow.os.trans q1.os),q4.tape.trans (hgrow.tape.trans q1.tape),q4.output.trans (hgrow.output.trans q1.output),by have:=q4.size;omega,fun k hk hkb hkg=>by
   rw[q4.block k (by omega) hkb,hgrow.block k (by omega) (fun e=>hkg e.symm),q1.block k hk hkb]⟩
 ·rw[<-H1.out.2.2,c1]at hv0
  cases hv0;intro g hg;have:=H1.out.2.1;exact(hat g hg).imp id fun h=>by omega
end
end Go.Proofs.YtblkkhfdeaaidaaGreatDoor
namespace Go.Proofs.YtblkkhfdeaaidaaGreatDoor
open Go.RowKit
def Gd(p:bQ):Prop:=p.N=0\/aD p.T p.N p.R=true
section
variable{p p' q':bQ}{l o o':List UInt8}
theorem wh{u:List UInt8}{x:Int}(hu:u.length<=10)(hx:fQ x):(dI u [x]).length<=20000:=by
 have:=wF (D:=[x]) fun y hy=>by rw[List.mem_singleton.1 hy];exact hx
 unfold dI;simp only[List.length_append,List.length_cons,List.length_nil]at this⊢;omega
theorem iL.one{X:List UInt8->Prop}(hX:p.N≠0->∀o o',X o->X o'->o=o')(h:iL p X p' o)(k:iL p X q' o'):p'=q'/\o=o':=by
 obtain⟨h1,h2⟩:=h;obtain⟨k1,k2⟩:=k;by_cases hN:p.N=0
 ·rw[if_pos hN]at h2 k2;exact⟨h1.trans k1.symm,h2.trans k2.symm⟩
 ·rw[if_neg hN]at h2 k2;exact⟨h1.trans k1.symm,hX hN _ _ h2 k2⟩
theorem iL.short{X:List UInt8->Prop}{n:Nat}(hX:p.N≠0->∀o,X o->o.length<=20000)(h:iL p X p' o):o.length<=20000/\p'.tx.length<=p.tx.length+n+1:=by
 obtain⟨h1,h2⟩:=h;refine⟨?_,by rw[h1];omega⟩;by_cases hN:p.N=0
 ·rw[if_pos hN]at h2;rw[h2];simp
 ·rw[if_neg hN]at h2;exact hX hN _ h2
theorem WH(hg:Gd p)(h:iM p l p' o)(k:iM p l q' o'):p'=q'/\o=o':=by
 have hm:p.N≠0->aD p.T p.N p.R=true:=hg.resolve_left;have both:∀{a:bQ} {b:List UInt8},p'=a/\o=b->q'=a/\o'=b->p'=q'/\o=o':=fun h k=>⟨h.1.trans k.1.symm,h.2.trans k.2.symm⟩;unfold iM at h k;by_cases g0:Lib.hasPrefix l [61,32]=true
 ·rw[if_pos g0]at h k
  exact both h k
 rw[if_neg g0]at h k;by_cases g1:l=[102,114,101,115,104]
 ·rw[if_pos g1]at h k
  exact both h k
 rw[if_neg g1]at h k;by_cases g2:l=[116,97,107,101]
 ·rw[if_pos g2]at h k
  exact both h k
 rw[if_neg g2]at h k;by_cases g3:l=[115,101,116,115]
 ·rw[if_pos g3]at h k
  exact iL.one (fun hN _ _ a b=>yt.one (hm hN) a b) h k
 rw[if_neg g3]at h k;by_cases g4:l=[115,104,111,114,116]
 ·rw[if_pos g4]at h k
  exact iL.one (fun _ _ _ ⟨O,a,b⟩ ⟨O',a',b'⟩=>by rw[b,b',a.one a']) h k
 rw[if_neg g4]at h k;by_cases g5:l=[116,97,98,108,101]
 ·rw[if_pos g5]at h k
  exact iL.one (fun _ _ _ a b=>vU.one a b) h k
 rw[if_neg g5]at h k;by_cases g6:l=[115,104,111,119]
 ·rw[if_pos g6]at h k
  exact iL.one (fun _ _ _ a b=>a.trans b.symm) h k
 rw[if_neg g6]at h k;cases hr:kY l with
 |none=>rw[hr]at h k;exact both h k
 |some uA=>
  obtain⟨u,A⟩:=uA;rw[hr]at h k;simp only at h k;by_cases g7:u=[104,97,115]
  ·rw[if_pos g7]at h k
   exact iL.one (fun _ _ _ a b=>nE.one a b) h k
  rw[if_neg g7]at h k;by_cases g8:u=[112,97,114,115,101]
  ·rw[if_pos g8]at h k
   exact iL.one (fun _ _ _ a b=>pV.one a b) h k
  rw[if_neg g8]at h k;by_cases g9:u=[115,116,101,112]/\A.length=4
  ·rw[if_pos g9]at h k
   by_cases g10:p.N=0
   ·rw[if_pos g10]at h k
    exact both h k
   ·rw[if_neg g10]at h k
    exact both h k
  ·rw[if_neg g9]at h k;exact both h k
theorem afv{s:Stp}(hm:aD p.T p.N p.R=true):(lW p s).length<=20000/\(kV p s).tx=p.tx:=by
 obtain⟨T1,N1,x,R1,-,h|h⟩:=WB (s:=s) hm
 ·obtain⟨-,T2,N2,-,-,h1,h2,h3⟩:=h
  obtain⟨-,-,-,h4,-⟩:=fV h1;rw[h2,h3];exact⟨wh (by simp) ⟨by omega,by omega⟩,rfl⟩
 ·obtain⟨-,h1,h2,h3⟩:=h
  rw[h2,h3];exact⟨wh (by simp) h1,rfl⟩
theorem afw(hl:p.tx.length<=4611686018427387904):(wI p).length<=20000/\(uM p).tx=p.tx:=by
 unfold wI uM;have hk:=OU p.tx;cases hok:uL p.tx with
 |false=>exact⟨wh (by simp) ⟨by omega,by omega⟩,rfl⟩
 |true=>
  unfold uL at hok;rw[Bool.and_eq_true]at hok;obtain⟨-,-,-,h4,-⟩:=fV hok.2;exact⟨wh (by simp) ⟨by omega,by omega⟩,rfl⟩
theorem afx(hg:Gd p)(hl:p.tx.length+l.length<=4611686018427387904)(h:iM p l p' o):o.length<=20000/\p'.tx.length<=p.tx.length+l.length+1:=by
 have hm:p.N≠0->aD p.T p.N p.R=true:=hg.resolve_left;have what:p'=p/\o=[63]->o.length<=20000/\p'.tx.length<=p.tx.length+l.length+1:=fun h=>by rw[h.1,h.2];exact⟨by simp,by omega⟩
 have hll:(Lib.trimPrefix l [61,32]).length<=l.length:=by unfold Lib.trimPrefix;split<;>simp
 unfold iM at h;by_cases g0:Lib.hasPrefix l [61,32]=true
 ·rw[if_pos g0]at h
  rw[h.1,h.2];have e:(p.tx++(Lib.trimPrefix l [61,32]++[10])).length<=p.tx.length+l.length+1:=by simp only[List.length_append,List.length_cons,List.length_nil];omega
  exact⟨wh (by simp) ⟨by omega,by omega⟩,e⟩
 rw[if_neg g0]at h;by_cases g1:l=[102,114,101,115,104]
 ·rw[if_pos g1]at h
  rw[h.1,h.2];exact⟨by simp,by simp⟩
 rw[if_neg g1]at h;by_cases g2:l=[116,97,107,101]
 ·rw[if_pos g2]at h
  rw[h.1,h.2];have:=afw (p:=p) (by omega);exact⟨this.1,by rw[this.2];omega⟩
 rw[if_neg g2]at h;by_cases g3:l=[115,101,116,115]
 ·rw[if_pos g3]at h
  refine h.short fun hN o ⟨Y,h1,_,h3⟩=> ?_;obtain⟨hT,_,hN',_,_⟩:=fV (hm hN);have:=wF (Nw h1 hT p.N (Nat.le_refl _));rw[Nv]at this;rw[h3];omega
 rw[if_neg g3]at h;by_cases g4:l=[115,104,111,114,116]
 ·rw[if_pos g4]at h
  refine h.short fun hN o ⟨O,h1,h3⟩=> ?_;obtain⟨hT,_,hN',_,_⟩:=fV (hm hN);have:=wF (PN h1);have:=h1.len;rw[h3];omega
 rw[if_neg g4]at h;by_cases g5:l=[116,97,98,108,101]
 ·rw[if_pos g5]at h
  refine h.short fun hN o h1=> ?_;rcases h1 with⟨_,rfl⟩|⟨K,_,hK,rfl⟩
  ·exact wh (by simp) ⟨by omega,by omega⟩
  ·have hc:=U6 (hm hN) hK
   have:=wF (D:=[(K:Int),fw (bZ p.T p.N p.R K)]) fun x hx=>by
    rcases List.mem_cons.1 hx with rfl|hx
    ·exact⟨by omega,by omega⟩
    ·rw[List.mem_singleton.1 hx];exact hc
   simp only[List.length_cons,List.length_nil]at this;omega
 rw[if_neg g5]at h;by_cases g6:l=[115,104,111,119]
 ·rw[if_pos g6]at h
  refine h.short fun hN o h1=> ?_
  have hlen:(oP p.T p.N p.R).length<=4611686018427387904:=by
   have hl:=JY (hm hN);have h1:=JZ hl;have h2:=hl.part p.R.length;rw[List.take_length]at h2;unfold oP;rw[List.length_append];omega
  have:=wF (D:=[((oP p.T p.N p.R).length:Int)]) fun x hx=>by rw[List.mem_singleton.1 hx];exact⟨by omega,by omega⟩
  simp only[List.length_cons,List.length_nil]at this;rw[h1];omega
 rw[if_neg g6]at h;cases hr:kY l with
 |none=>rw[hr]at h;exact what h
 |some uA=>
  obtain⟨u,A⟩:=uA;rw[hr]at h;simp only at h;by_cases g7:u=[104,97,115]
  ·rw[if_pos g7]at h
   refine h.short fun hN o h1=> ?_;rcases h1 with⟨_,rfl⟩|⟨_,⟨_,rfl⟩|⟨_,rfl⟩⟩
   ·exact wh (by simp) (MH _ _ _ _)
   ·simp
   ·simp
  rw[if_neg g7]at h;by_cases g8:u=[112,97,114,115,101]
  ·rw[if_pos g8]at h
   refine h.short fun hN o ⟨a,h1,h2⟩=> ?_;obtain⟨k1,k2,k3,k4⟩:=U3 (hm hN) h1;rw[h2];unfold vT;split
   ·exact wh (by simp) k1
   split
   ·exact wh (by simp) k2
   ·have:=wF k4
    unfold dI;simp only[List.length_append,List.length_cons,List.length_nil];omega
  rw[if_neg g8]at h;by_cases g9:u=[115,116,101,112]/\A.length=4
  ·rw[if_pos g9]at h
   by_cases g10:p.N=0
   ·rw[if_pos g10]at h
    rw[h.1,h.2];exact⟨by simp,by omega⟩
   ·rw[if_neg g10]at h
    have:=afv (s:=⟨A.getD 0 0,A.getD 1 0,A.getD 2 0,A.getD 3 0⟩) (hm g10);rw[h.1,h.2];exact⟨this.1,by rw[this.2];omega⟩
  ·rw[if_neg g9]at h;exact what h
end
def gD:Nat->List UInt8->bQ->List UInt8->Prop
 |0,_,_,o=>o=[]
 |n+1,s,p,o=>(s=[]/\o=[])\/(s≠[]/\∃p' a o',iM p (kZ 10 s).1 p' a/\Gd p'/\gD n (kZ 10 s).2.1 p' o'/\o=(a++[10])++o')
theorem NH(b:List UInt8):∀a:List UInt8,gG 10 (a++10::b)=(match gG 10 a with|none=>some (a,b)|some (x,y)=>some (x,y++10::b))
 | []=>by simp[gG]
 |c::a=>by
  rw[List.cons_append,gG,gG,NH b a];by_cases h:c==10
  ·rw[if_pos h,if_pos h]
  ·rw[if_neg h,if_neg h]
   cases gG 10 a<;>rfl
theorem gD.nil{n:Nat}{p:bQ}{o:List UInt8}(h:gD n [] p o):o=[]:=by
 cases n with
 |zero=>exact h
 |succ n=>
  rw[gD]at h;rcases h with h|h
  ·exact h.2
  ·exact absurd rfl h.1
theorem gD.begins{b:List UInt8}:∀{n:Nat} {a:List UInt8} {p:bQ} {o o':List UInt8},Gd p->gD n (a++[10]) p o->gD n (a++10::b) p o'->∃z,o'=o++z
 |0,_,_,_,_,_,h,k=>⟨[],by rw[gD]at h k;rw[h,k];rfl⟩
 |n+1,a,p,o,o',hg,h,k=>by
  rw[gD]at h k;rcases h with h|⟨-,p1,a1,o1,h1,h2,h3,h4⟩
  ·exact absurd h.1 (by simp)
  rcases k with k|⟨-,p2,a2,o2,k1,k2,k3,k4⟩
  ·exact absurd k.1 (by simp)
  have e1:=NH [] a;have e2:=NH b a;unfold kZ at h1 h3 k1 k3;rw[e1]at h1 h3;rw[e2]at k1 k3;cases hc:gG 10 a with
  |none=>
   rw[hc]at h1 h3 k1 k3;simp only at h1 h3 k1 k3;obtain⟨-,e⟩:=WH hg h1 k1;exact⟨o2,by rw[h4,k4,h3.nil,e,List.append_nil]⟩
  |some xy=>
   obtain⟨x,y⟩:=xy;rw[hc]at h1 h3 k1 k3;simp only at h1 h3 k1 k3;obtain⟨e,e'⟩:=WH hg h1 k1;subst e e';obtain⟨z,hz⟩:=gD.begins h2 h3 k3;exact⟨z,by rw[h4,k4,hz,List.append_assoc,List.append_assoc,List.append_assoc]⟩
theorem gD.what{n:Nat}{o:List UInt8}{p:bQ}(h:gD (n+1) [63] p o):o=[63,10]:=by
 rw[gD]at h;rcases h with h|⟨-,p1,a1,o1,h1,h2,h3,h4⟩
 ·cases h.1
 have e:kZ 10 [63]=([63],[],false):=rfl;rw[e]at h1 h3;have h3:=h3.nil;subst h3;unfold iM at h1;have f0:¬Lib.hasPrefix [63] [61,32]=true:=by decide
 rw[if_neg f0,if_neg (by decide),if_neg (by decide),if_neg (by decide),if_neg (by decide),if_neg (by decide),if_neg (by decide)]at h1;have e2:kY [63]=some ([63],[]):=rfl;rw[e2]at h1;simp only at h1;rw[if_neg (by decide),if_neg (by decide),if_neg (by decide)]at h1;rw[h4,h1.2];rfl
def wm(w:World)(B E:Nat)(rv:Value)(R:List Ru):Prop:=E<=w.heap.size/\∀w':World,E<=w'.heap.size->(∀k,B<=k->k<E->w'.heap[k]?=w.heap[k]?)->au w' w'.heap.size rv R
structure nG(w:World)(pb B E:Nat)(rv v0:Value)(p:bQ)(o:List UInt8):Prop where
 pl:aZ w pb B rv p
 rules:wm w B E rv p.R
 bu:Lib.IsBuilderF 32 5 (pb+1) (pb+1) (Lib.byteCells o) w
 row:w.cell? ⟨pb+1,1,none⟩=some v0
 lt:pb+1<B
 ap:∀g,v0.ownBlock=some g->pb+1<g/\g<w.heap.size/\(g<B\/E<=g)
section
variable{w w':World}{pb B E B':Nat}{rv v0 v1 rv':Value}{p p':bQ}{o a:List UInt8}{R:List Ru}
theorem l7.upto(h:l7 w B rv R):wm w B w.heap.size rv R:=⟨Nat.le_refl _,h⟩
theorem wm.within(h:wm w B E rv R):l7 w B rv R:=fun w' h1 h2=>h.2 w' (Nat.le_trans h.1 h1) fun k hB hE=>h2 k hB (Nat.lt_of_lt_of_le hE h.1)
theorem wm.on(h:wm w B E rv R)(hs:E<=w'.heap.size)(hk:∀k,B<=k->k<E->w'.heap[k]?=w.heap[k]?):wm w' B E rv R:=⟨hs,fun w2 h1 h2=>h.2 w2 h1 fun k hB hE=>(h2 k hB hE).trans (hk k hB hE)⟩
theorem WI{T e B b:Nat}{bs:List Value}(h:Lib.IsBuilderF T e B b bs w)(hb:But pb w w')(hB:pb<B):Lib.IsBuilderF T e B b bs w':=by
 have one:∀p,Lib.BuilderAtF T e B b p bs w->Lib.BuilderAtF T e B b p bs w':=fun p h=>by
  obtain⟨h1,v,h2,h3,h4⟩:=h;refine⟨h1,v,(hb.block _ (Array.getElem?_eq_some_iff.1 h2).1 (by omega)).trans h2,⟨h3.1,?_⟩,h4⟩;rcases h3.2 with h5|⟨g,cap,cur,fz,e1,e2,e3,e4⟩
  ·exact .inl h5
  ·exact .inr ⟨g,cap,cur,fz,e1,e2,(hb.block _ (Array.getElem?_eq_some_iff.1 e3).1 (by omega)).trans e3,e4⟩
 exact h.imp (one _) (one _)
theorem nG.later(h:nG w pb B E rv v0 p o)(hb:Below w.heap.size w w'):nG w' pb B E rv v0 p o:=
 ⟨h.pl.later hb,h.rules.on (Nat.le_trans h.rules.1 hb.size) fun k _ hk=>hb.block k (Nat.lt_of_lt_of_le hk h.rules.1),Pp h.bu hb,(hb.cell (wM h.bu)).trans h.row,h.lt,fun g hg=>by have:=h.ap g hg;have:=hb.size;exact⟨by omega,by omega,by omega⟩⟩
theorem nG.does(h:nG w pb B E rv v0 p o)(hp:aZ w' pb B' rv' p')(hb:But pb w w')(hB:Bh w B rv p B' rv' p'):∃E',nG w' pb B' E' rv' v0 p' o:=by
 have hlt:=h.lt;have hE:=h.rules.1;have hs:=hb.size;have hbl:=wM h.bu;have hrow:w'.cell? ⟨pb+1,1,none⟩=some v0:=(World.cell?_of_block (w:=w) (a:=⟨pb+1,1,none⟩) (hb.block (pb+1) hbl (by omega))).trans h.row;rcases hB with⟨rfl,rfl,hR⟩|hB
 ·exact⟨E,hp,by rw[hR];exact h.rules.on (by omega) fun k h1 h2=>hb.block k (by omega) (by omega),WI h.bu hb (by omega),hrow,hlt,fun g hg=>by have:=h.ap g hg;exact⟨by omega,by omega,by omega⟩⟩
 ·exact⟨w'.heap.size,hp,hp.rules.upto,WI h.bu hb (by omega),hrow,by omega,fun g hg=>by have:=h.ap g hg;exact⟨by omega,by omega,by omega⟩⟩
theorem nG.write(h:nG w pb B E rv v0 p o)(hat:Lib.BuilderAtF 32 5 (pb+1) (pb+1) (.pointer (some ⟨pb+1,0,none⟩)) (Lib.byteCells o++Lib.strCells ⟨a.toArray⟩) w')(h1:w'.cell? ⟨pb+1,1,none⟩=some v1)(h2:Jq (pb+1) v0.ownBlock w w')(h3:∀g,v1.ownBlock=some g->v0.ownBlock=some g\/w.heap.size<=g):nG w' pb B E rv v1 p (o++a):=by
 have hlt:=h.lt;have hE:=h.rules.1;have hs:=h2.size;have hpb:=h.pl.below;have hr:wm w' B E rv p.R:=h.rules.on (by omega) fun k k1 k2=>h2.block k (by omega) (by omega) fun e=>by have:=h.ap k e;omega
 have hbu:Lib.IsBuilderF 32 5 (pb+1) (pb+1) (Lib.byteCells (o++a)) w':=by
  refine .inr ?_;have e:Lib.byteCells (o++a)=Lib.byteCells o++Lib.strCells ⟨a.toArray⟩:=by rw[Lib.strCells_eq,Lib.byteCells_append]
  rw[e];exact hat
 refine⟨⟨(h2.block pb hpb (by omega) fun e=>by have:=h.ap pb e;omega).trans h.pl.at_,h.pl.lt,hr.within,h.pl.good⟩,hr,hbu,h1,hlt,fun g hg=> ?_⟩;obtain⟨-,v,k2,k3,k4⟩:=hat;have e:some v=some v1:=(ai (i:=1) k2 rfl).symm.trans h1;cases e;have l1:=k3.lt g hg;have l2:g≠pb+1:=fun e=>k4 (by rw[hg,e]);refine⟨by omega,by omega,?_⟩;rcases h3 g hg with e|e
 ·exact(h.ap g e).2.2
 ·exact .inr (by omega)
theorem Jq.below{b g:Nat}{v:Option Nat}(h:Jq b v w w')(hb:g<=b)(hg:∀k,v=some k->g<=k)(hs:g<=w.heap.size):Below g w w':=
 ⟨h.os,h.tape,h.output,h.size,fun k hk=>h.block k (by omega) (by omega) fun e=>by have:=hg k e;omega⟩
theorem afy(c:UInt8)(s:List UInt8):(kZ c s).1.length+(kZ c s).2.1.length<=s.length:=by
 unfold kZ;cases h:gG c s with
 |none=>simp
 |some q=>obtain⟨x,y⟩:=q;have:=JL h;simp only;omega
theorem afz(w:World):nG ((w.alloc (.cells #[.int .i64 0,.int .i64 0,.slice none 0 0,.string ⟨#[]⟩] 28)).alloc (.cells #[.pointer none,.slice none 0 0] 32)) w.heap.size (w.heap.size+2) (w.heap.size+2) (.slice none 0 0) (.slice none 0 0) ⟨[],0,0,[]⟩ []:=by
 obtain⟨W1,hW1⟩:∃V,w.alloc (.cells #[.int .i64 0,.int .i64 0,.slice none 0 0,.string ⟨#[]⟩] 28)=V:=⟨_,rfl⟩;have hz:W1.heap.size=w.heap.size+1:=by rw[<-hW1];simp
 have hx:=heap_alloc_new w (.cells #[.int .i64 0,.int .i64 0,.slice none 0 0,.string ⟨#[]⟩] 28);rw[hW1]at hx⊢;have hb:=Po W1;have hy:=heap_alloc_new W1 (.cells #[.pointer none,.slice none 0 0] 32);rw[hz]at hb hy;have hr:wm (W1.alloc (.cells #[.pointer none,.slice none 0 0] 32)) (w.heap.size+2) (w.heap.size+2) (.slice none 0 0) []:=⟨by simp;omega,fun w' _ _=>⟨⟨none,0,rfl⟩,fun p hp=>absurd hp (by simp)⟩⟩;exact⟨⟨(heap_alloc_old W1 _ (Array.getElem?_eq_some_iff.1 hx).1).trans hx,by omega,hr.within,.inl rfl⟩,hr,hb,ai hy rfl,by omega,fun g hg=>by cases hg⟩
end
def qi:bQ:=⟨[],0,0,[]⟩
section
variable{w:World}{G:Nat}{s:List UInt8}
theorem afA(hE:cB G w)(hG:G<=w.heap.size)(hs:s.length<=281474976710656):Calls Tryz.prog 4 #[.string ⟨s.toArray⟩] w fun e w'=> ∃o,gD 60 s qi o/\e= .returned (.string ⟨o.toArray⟩)/\Below w.heap.size w w':=by
 obtain⟨W2,hW2⟩:∃V,(w.alloc (.cells #[.int .i64 0,.int .i64 0,.slice none 0 0,.string ⟨#[]⟩] 28)).alloc (.cells #[.pointer none,.slice none 0 0] 32)=V:=⟨_,rfl⟩;have hP:=afz w;rw[hW2]at hP;have hB2:Below w.heap.size w W2:=by rw[<-hW2];exact((Below.refl _ _).alloc (Nat.le_refl _) _).alloc (by simp) _
 obtain⟨pb,hpb⟩:∃x,w.heap.size=x:=⟨_,rfl⟩;rw[hpb]at hP hB2 hG⊢;have HI:Hid (nG W2 pb (pb+2) (pb+2) (.slice none 0 0) (.slice none 0 0) qi []/\Below pb w W2/\cB G w/\G<=pb/\w.heap.size=pb):=⟨hP,hB2,hE,hG,hpb⟩;have HW:Hid ((w.alloc (.cells #[.int .i64 0,.int .i64 0,.slice none 0 0,.string ⟨#[]⟩] 28)).alloc (.cells #[.pointer none,.slice none 0 0] 32)=W2/\w.heap.size=pb):=⟨hW2,hpb⟩;clear hE hG hP hB2 hW2 hpb
 go_enter Tryz.func4,Tryz.ntmps4
 go_upto_region 3 with fail
 rw[HW.out.1];rw[HW.out.2];clear HW
 go_wp2_with fail
 go_loopw [0,5] (fun s0 s5 wr=> ∃(k:Nat) (t:List UInt8) (p:bQ) (o:List UInt8) (B E:Nat) (rv v0:Value),s0= .string ⟨t.toArray⟩/\s5= .int .i64 k/\k<=60/\nG wr pb B E rv v0 p o/\Below pb w wr/\(t.length<=s.length/\p.tx.length+t.length<=s.length+k/\o.length<=20001*k)/\∀o',gD (60-k) t p o'->gD 60 s qi (o++o')) (fun _ v _=>60-(intOf v).toNat)
 case atStart=>exact⟨0,s,qi,[],_,_,_,_,rfl,rfl,Nat.zero_le _,HI.out.1,HI.out.2.1,⟨Nat.le_refl _,by simp[qi],by simp⟩,fun o' h=>h⟩
 case round=>
  obtain⟨k,t,p,o,B,E,rv,v0,rfl,rfl,hk,hP,hB,⟨hts,htl,hol⟩,hR⟩:=hrel;have HP:Hid (nG wr pb B E rv v0 p o/\Below pb w wr/\pb+1<=wr.heap.size):=⟨hP,hB,Nat.le_of_lt (wM hP.bu)⟩
  have Fh:(t=[]\/k=60)->gD 60 s qi o:=fun h=>by
   have:gD (60-k) t p []:=by
    rcases h with rfl|rfl
    ·cases 60-k with
     |zero=>exact rfl
     |succ n=>exact .inl ⟨rfl,rfl⟩
    ·exact rfl
   simpa using hR [] this
  have bs:=NM (pb+1) (pb+1) o wr hP.bu HP.out.2.2;cases e0:t.isEmpty with
  |true=>
   have HO:Hid (gD 60 s qi o):=Fh (.inl (List.isEmpty_iff.1 e0));clear hP hB hR Fh
   go_wp2_with
    (go_at_call 8;refine bs.mono ?_;rintro e w2 ⟨rfl,-,h2,-⟩
     have H2:Hid (Below pb w w2):=HP.out.2.1.trans (h2.mono (Nat.le_succ _))
     clear bs h2)
   go_ret;exact⟨o,HO.out,rfl,H2.out⟩
  |false=>
   by_cases h60:k<60
   ·have d1:decide ((k:Int)<60)=true:=decide_eq_true (by omega)
    have ct:=JM (c:=10) (s:=t) (by omega) wr;have hcl:=afy 10 t;obtain⟨⟨l,r,m⟩,hcut⟩:∃x,kZ 10 t=x:=⟨_,rfl⟩;rw[hcut]at ct hcl;simp only at ct hcl
    have HAW:Hid (∀wq,Below wr.heap.size wr wq->Calls Tryz.prog 6 #[.pointer (some ⟨pb,0,none⟩),.string ⟨l.toArray⟩] wq fun e w'=> ∃v,e= .returned v/\fP w' v pb B rv p (iM p l)/\Below wq.heap.size wq w'):=fun wq hq=>
     afq (hP.pl.later hq) ((HI.out.2.2.1.below hB HI.out.2.2.2.1).below hq (by have:=HI.out.2.2.2.1;have:=HP.out.2.2;omega)) HI.out.2.2.2.1 (by omega) (by omega)
    have HN:Hid (kZ 10 t=(l,r,m)/\t≠[]/\t.length<=s.length/\l.length+r.length<=t.length/\p.tx.length+t.length<=s.length+k/\o.length<=20001*k/\k<60/\s.length<=281474976710656/\∀o',gD (60-k) t p o'->gD 60 s qi (o++o')):=⟨hcut,(fun e=>by rw[e]at e0;cases e0),hts,hcl,htl,hol,h60,hs,hR⟩;clear hP hB hR Fh hcut hcl htl hol hts bs hs
    go_upto_region 8 with
     (first
      |(go_at_call 5;refine ct.mono ?_;rintro e w2 ⟨rfl,h2⟩
        have aw:=HAW.out w2 h2;have H2:Hid (Below wr.heap.size wr w2):=h2
        clear ct h2)
      |(go_at_call 6;refine aw.mono ?_;rintro e w3 ⟨v,rfl,hd,h3⟩
        have HD:Hid (fP w3 v pb B rv p (iM p l)/\Below wr.heap.size wr w3):=⟨hd,H2.out.trans (h3.mono H2.out.size)⟩
        clear aw hd h3))
    obtain⟨dn,bound,caps,args,hv,hargs,hdn,hcall⟩:=HD.out.1;subst hv
    go_wp2_with
     (first
      |(refine Calls.mono hcall ?_;rintro e w4 ⟨o1,p1,B1,NI,hA,rfl,hp1,hb1,hB1⟩
        obtain⟨E1,l8⟩:=(HP.out.1.later HD.out.2).does hp1 hb1 hB1;obtain⟨hl1,hl2⟩:=afx HP.out.1.pl.good (by have:=HN.out;omega) hA;have add:=yF (P:=Tryz.prog) o1 [10] (by simp;omega);obtain⟨o2,ho2⟩:∃x,o1++[10]=x:=⟨_,rfl⟩;have hl3:o2.length=o1.length+1:=by rw[<-ho2];simp
        rw[ho2]at add;have Fz:=wM l8.bu;have hwr:=afu (s:=⟨o2.toArray⟩) l8.bu (by rw[Lib.byteCells_length,show (⟨o2.toArray⟩:ByteArray).size=o2.length by simp[ByteArray.size]];have:=HN.out;omega) (Nat.le_of_lt Fz);have hb4:Below pb w w4:=(HP.out.2.1.trans (HD.out.2.mono (Nat.le_of_succ_le HP.out.2.2))).trans (hb1.below (Nat.le_refl _) (by have:=HD.out.2.size;have:=HP.out.2.2;omega));have H4:Hid (nG w4 pb B1 E1 NI v0 p1 o/\Below pb w w4/\iM p l p1 o1/\o1++[10]=o2/\o2.length<=20001/\p1.tx.length<=p.tx.length+l.length+1):=⟨l8,hb4,hA,ho2,by omega,hl2⟩
        clear hcall hA hp1 hb1 hB1 l8 hl1 hl2 hl3 Fz hb4 ho2)
      |(go_at_call 7;refine hwr.mono ?_;rintro e w5 ⟨rfl,hat,hx⟩
        obtain⟨v1,hx1,hx2,hx3⟩:=hx v0 H4.out.1.row;have H5:Hid (nG w5 pb B1 E1 NI v1 p1 (o++o2)/\Below pb w w5):=⟨H4.out.1.write hat hx1 hx2 hx3,H4.out.2.1.trans (hx2.below (Nat.le_succ _) (fun k hk=>by have:=H4.out.1.ap k hk;omega) (by have:=wM H4.out.1.bu;omega))⟩
        clear hwr hat hx hx1 hx2 hx3))
    go_roundw
    case rel=>
     obtain⟨hcut,hne,hts,hcl,htl,hol,-,-,hR⟩:=HN.out;obtain⟨l8,-,hA,ho2,hl2,hl1⟩:=H4.out;refine⟨k+1,r,p1,o++o2,B1,E1,NI,v1,rfl,by go_num,by omega,H5.out.1,H5.out.2,⟨by omega,by omega,by rw[List.length_append];omega⟩,fun o' h=> ?_⟩;rw[List.append_assoc];refine hR _ ?_;obtain⟨n,hn⟩:∃n,60-k=n+1:=⟨60-(k+1),by omega⟩;rw[show 60-(k+1)=n by omega]at h;rw[hn,gD,hcut];exact .inr ⟨hne,p1,o1,o',hA,l8.pl.good,h,by rw[ho2]⟩
    case measure=>simp[intOf];omega
   ·have d1:decide ((k:Int)<60)=false:=decide_eq_false (by omega)
    have HO:Hid (gD 60 s qi o):=Fh (.inr (by omega));clear hP hB hR Fh
    go_wp2_with
     (go_at_call 8;refine bs.mono ?_;rintro e w2 ⟨rfl,-,h2,-⟩
      have H2:Hid (Below pb w w2):=HP.out.2.1.trans (h2.mono (Nat.le_succ _))
      clear bs h2)
    go_ret;exact⟨o,HO.out,rfl,H2.out⟩
end
section
variable{w:World}{G:Nat}{a b:List UInt8}
theorem afB(hE:cB G w)(hG:G<=w.heap.size)(ha:a.length<=140737488351232)(hb:b.length<=140737488351232):Calls Tryz.prog 3 #[.string ⟨a.toArray⟩,.string ⟨b.toArray⟩] w fun e w'=>e= .returned (.bool true)/\Below w.heap.size w w':=by
 have add1:=yF (P:=Tryz.prog) a [10] (by simp;omega);obtain⟨a1,ha1⟩:∃x,a++[10]=x:=⟨_,rfl⟩;have hl1:a1.length=a.length+1:=by rw[<-ha1];simp
 rw[ha1]at add1;have add2:=yF (P:=Tryz.prog) a1 b (by omega);obtain⟨a2,ha2⟩:∃x,a1++b=x:=⟨_,rfl⟩;have hl2:a2.length=a1.length+b.length:=by rw[<-ha2];simp
 rw[ha2]at add2
 have HP:Hid (∀(s:List UInt8) wq,s.length<=281474976710656->Below w.heap.size w wq->Calls Tryz.prog 4 #[.string ⟨s.toArray⟩] wq fun e w'=> ∃o,gD 60 s qi o/\e= .returned (.string ⟨o.toArray⟩)/\Below wq.heap.size wq w'):=fun s wq hs hq=>
  afA (hE.below hq hG) (Nat.le_trans hG hq.size) hs
 have HZ:Hid (∀o o',gD 60 a1 qi o->gD 60 a2 qi o'->∃z,o'=o++z):=fun o o' h k=>by
  rw[<-ha1]at h;rw[<-ha2,<-ha1,List.append_assoc]at k;exact gD.begins (.inl rfl) h k
 have p1:=HP.out a1 w (by omega) (Below.refl _ _);have HL:Hid (a2.length<=281474976710656):=by show _<=_;omega
 clear hE hG ha hb ha1 ha2 hl1 hl2
 go_enter Tryz.func3,Tryz.ntmps3
 go_upto_region 3 with
  (go_at_call 4;refine p1.mono ?_;rintro e w2 ⟨o1,h1,rfl,h2⟩
   have H2:Hid (gD 60 a1 qi o1/\Below w.heap.size w w2):=⟨h1,h2⟩;have p2:=HP.out a2 w2 HL.out h2
   clear p1 h1 h2)
 go_upto_region 4 with
  (go_at_call 4;refine p2.mono ?_;rintro e w3 ⟨o2,h1,rfl,h3⟩
   have H3:Hid (Below w.heap.size w w3/\∃z,o2=o1++z):=⟨H2.out.2.trans (h3.mono H2.out.2.size),HZ.out o1 o2 H2.out.1 h1⟩;have p3:=HP.out [63] w3 (by simp) H3.out.1
   clear p2 h1 h3)
 obtain⟨z,hz⟩:=H3.out.2;have hle:o1.length<=o2.length:=by rw[hz];simp
 have hex:(⟨o2.toArray⟩:ByteArray).extract 0 o1.length=⟨o1.toArray⟩:=by
  rw[hz];apply ByteArray.ext;simp[ByteArray.data_extract]
 have d1:decide ((o1.length:Int)<=(o2.length:Int))=true:=decide_eq_true (by omega);have q1:(0:Int)<=(o1.length:Int):=by omega
 have q2:(o1.length:Int)<=(o2.length:Int):=by omega
 clear hz hle
 go_wp2_with
  (go_at_call 4;refine p3.mono ?_;rintro e w4 ⟨o3,h1,rfl,h4⟩
   have h5:=h1.what;subst h5;have H4:Hid (Below w.heap.size w w4):=H3.out.1.trans (h4.mono H3.out.1.size)
   clear p3 h1 h4)
 go_ret;exact⟨rfl,H4.out⟩
end
end Go.Proofs.YtblkkhfdeaaidaaGreatDoor
