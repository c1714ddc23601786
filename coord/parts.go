package coord

import (
	"amphora/api"
	"amphora/frame"
	"amphora/shards"
	"amphora/stripe"
)

// putting is what a put has beside what all calls have.
type putting struct {
	whole []byte        // the blob, till it is placed
	store *shards.Store // nil till then
}

// placed tells whether it is known where the shards lie.
func (p *putting) placed() bool { return p.store != nil }

// stored tells whether all of them do.
func (p *putting) stored() bool { return p.placed() && p.store.Done() }

// cut makes shards of the blob, as its command says. No error: they fit.
func (p *putting) cut(c api.Cmd) {
	cut, _ := stripe.Cut(c.Code, p.whole)
	p.whole, p.store = nil, shards.NewStore(c.ID, c.Nodes, cut)
}

// getting is what a get has beside what all calls have.
type getting struct {
	fetch *shards.Fetch // nil, till the blob is known
}

// known tells whether it is known what is to be fetched.
func (g *getting) known() bool { return g.fetch != nil }

// find has the blob be known, if it may be.
func (g *getting) find(b api.Blob) bool {
	fetch, ok := shards.NewFetch(b)
	if ok {
		g.fetch = fetch
	}
	return ok
}

// joined is the bytes of the shards that came, and whether they are the blob's.
func (g *getting) joined() ([]byte, bool) {
	b := g.fetch.Blob()
	whole, _ := stripe.Join(b.Code, b.Size, g.fetch.Came()) // no error: K of one length are there
	return whole, frame.Sum(whole) == b.Sum
}
