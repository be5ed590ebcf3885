package packet

import (
	"syndic/api"
	"syndic/lsa"
	"syndic/quad"
)

// reader reads a packet's bytes, as many as the length tells.
type reader struct {
	*quad.Reader
	p api.Packet
	// wrong is kept till all is read, since the error of a description goes ahead of it.
	wrong bool
	err   api.Errno
}

// told answers the packet that b tells, which is good and has a packet's head at least.
func told(b []byte) (api.Packet, api.Errno) {
	var r reader
	long, is := length(b)
	if !is {
		goto misformed
	}
	r.Reader = quad.Read(b[:long])
	r.head()
	r.rest()
	if r.err != api.OK {
		return api.Packet{}, r.err
	}
	if r.wrong {
		goto misformed
	}
	if r.Err() != api.OK || r.Left() > 0 {
		goto misformed
	}
	if !Right(r.p) {
		goto misformed
	}
	return r.p, api.OK

misformed:
	return api.Packet{}, api.ErrForm
}

// length answers how many bytes b tells that it has; false, if its version, its kind, that length or what follows it isn't as told.
func length(b []byte) (int, bool) {
	r := quad.Read(b[:longAt+2])
	if r.Num(1) != version || !within(r.Num(1), api.PHello, api.PAck) {
		return 0, false
	}
	long := r.Num(2)
	if long < headSize || len(b) != long+long%2 {
		return 0, false
	}
	// What an odd length doesn't count is a 0.
	return long, long%2 == 0 || b[long] == 0
}

// head reads what all packets have.
func (r *reader) head() {
	r.Num(1)
	r.p.Kind = r.Num(1)
	r.Num(2)
	r.p.From = r.Num(4)
	r.zero(4)
	r.Num(2)
	r.zero(2)
	r.zero(4)
	r.zero(4)
}

// rest reads what the packet's kind has.
func (r *reader) rest() {
	kinds := [...]func(){
		api.PHello:  r.hello,
		api.PDd:     r.dd,
		api.PWant:   r.want,
		api.PUpdate: r.update,
		api.PAck:    r.ack,
	}
	kinds[r.p.Kind]()
}

// zero reads what must be 0.
func (r *reader) zero(w int) {
	if r.Num(w) != 0 {
		r.wrong = true
	}
}

// hello reads a Hello.
func (r *reader) hello() {
	h := &r.p.Hello
	h.Every = r.Num(2)
	r.zero(1)
	h.Prio = r.Num(1)
	h.Dead = r.Num(4)
	h.Dr, h.Bdr = r.Num(4), r.Num(4)
	for r.Left() >= seenSize {
		h.Seen = append(h.Seen, r.Num(seenSize))
	}
}

// dd reads a Dd.
func (r *reader) dd() {
	d := &r.p.Dd
	r.zero(2)
	r.zero(1)
	flags := r.Num(1)
	d.Init, d.More, d.Master = flags&begins != 0, flags&more != 0, flags&master != 0
	if flags > begins+more+master {
		r.wrong = true
	}
	d.Seq = r.Num(4)
	d.Heads = r.heads()
}

// want reads keys to the end.
func (r *reader) want() {
	for r.Left() >= keySize {
		r.p.Wants = append(r.p.Wants, api.Key{Kind: r.Num(4), Id: r.Num(4), Adv: r.Num(4)})
	}
}

// update reads as many descriptions as are told; the first one that isn't got ends it, with its own error.
func (r *reader) update() {
	many := r.Num(4)
	b := r.Bytes(r.Left())
	for range many {
		l, err := lsa.Get(b)
		if err != api.OK {
			r.err = err
			return
		}
		r.p.Lsas = append(r.p.Lsas, l)
		b = b[l.Head.Long:]
	}
	if len(b) > 0 {
		r.wrong = true
	}
}

// ack reads heads that are acknowledged.
func (r *reader) ack() {
	r.p.Acks = r.heads()
}

// heads reads heads to the end.
func (r *reader) heads() []api.Head {
	var out []api.Head
	for r.Left() >= lsaHeadSize {
		h, err := lsa.GetHead(r.Bytes(lsaHeadSize))
		if err != api.OK {
			r.wrong = true
		}
		out = append(out, h)
	}
	return out
}
