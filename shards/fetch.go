package shards

import (
	"bytes"

	"amphora/api"
	"amphora/clone"
	"amphora/stripe"
)

// Fetch is a blob's shards as they come from its nodes.
type Fetch struct {
	blob  api.Blob
	came  [][]byte // by their places; an empty one did not come
	count int      // how many came
}

// NewFetch is one of which none came, if the blob may be.
func NewFetch(b api.Blob) (*Fetch, bool) {
	if !Fit(b.Code, b.Size, b.Nodes) {
		return nil, false
	}
	return &Fetch{blob: clone.Blob(b), came: make([][]byte, len(b.Nodes))}, true
}

// Blob is the blob. Its list is to be read alone, and so is Came's.
func (f *Fetch) Blob() api.Blob { return f.blob }

// Came is the shards, by their places; an empty one did not come.
func (f *Fetch) Came() [][]byte { return f.came }

// Length is how many bytes each of them has.
func (f *Fetch) Length() int { return stripe.Length(f.blob.Code, f.blob.Size) }

// Enough tells whether those that came fix the blob.
func (f *Fetch) Enough() bool { return f.count >= f.blob.Code.K }

// Asks is a request to each node whose shard did not come.
func (f *Fetch) Asks(self, epoch int) []api.Msg {
	var asks []api.Msg
	for i, n := range f.blob.Nodes {
		if len(f.came[i]) == 0 {
			asks = append(asks, api.Msg{Kind: api.MsgFetch, From: self, To: n, Blob: f.blob.ID, Index: i, Epoch: epoch})
		}
	}
	return asks
}

// On hears a message, and tells whether a shard came by it.
func (f *Fetch) On(x api.Msg) bool {
	if x.Kind != api.MsgFetched || !x.OK || len(x.Bytes) != f.Length() {
		return false
	}
	if !lies(x, f.blob.ID, f.blob.Nodes) || len(f.came[x.Index]) > 0 {
		return false
	}
	f.came[x.Index] = bytes.Clone(x.Bytes)
	f.count++
	return true
}

// Forget has none have come.
func (f *Fetch) Forget() {
	clear(f.came)
	f.count = 0
}
