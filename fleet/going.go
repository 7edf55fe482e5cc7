package fleet

import (
	"bytes"
	"slices"

	"yearbook/api"
	"yearbook/shelf"
	"yearbook/tree"
)

// going is a fleet that goes on: what is done with it changes it.
type going struct {
	api.Fleet
}

// begin answers a fleet of open shards, one for each window, with which
// nothing is wrong.
func begin(windows [][2]int) *going {
	shards := make([]api.Shard, 0, len(windows))
	for _, w := range windows {
		shards = append(shards, api.Shard{From: w[0], To: w[1], State: api.Open})
	}
	return &going{api.Fleet{Shards: shards}}
}

func (g *going) do(d api.Do) api.Answer {
	if d.Kind == api.DoSubmit {
		return g.submit(d.Time, d.Entry)
	}
	if err := g.refusal(d); err != api.OK {
		return refused(err)
	}
	switch d.Kind {
	case api.DoFreeze:
		return g.freeze(d.N)
	case api.DoExport:
		return g.export(d.N)
	case api.DoRetire:
		return g.retire(d.N)
	}
	return g.spoil(d)
}

// submit gives the entry to the shard of its time.
func (g *going) submit(time int, entry []byte) api.Answer {
	if len(entry) > api.MaxLeaf {
		return refused(api.ErrMuch)
	}
	n := slices.IndexFunc(g.Shards, func(s api.Shard) bool {
		return s.From <= time && time < s.To
	})
	if n < 0 {
		return refused(api.ErrNone)
	}
	s := &g.Shards[n]
	if s.State != api.Open {
		return refused(api.ErrShut)
	}
	place := slices.IndexFunc(s.Entries, func(b []byte) bool {
		return bytes.Equal(b, entry)
	})
	if place >= 0 {
		return api.Answer{Shard: n, Place: place}
	}
	if len(s.Entries) >= api.MaxLeaves {
		return refused(api.ErrMany)
	}
	s.Entries = append(s.Entries, bytes.Clone(entry))
	return api.Answer{Shard: n, Place: len(s.Entries) - 1}
}

// stateAsked answers which state each kind of step asks its shard to be in.
func stateAsked() map[int]int {
	return map[int]int{
		api.DoFreeze: api.Open,
		api.DoExport: api.Frozen,
		api.DoRetire: api.Archived,
		api.DoSpoil:  api.Archived,
	}
}

// refusal answers what keeps the step d from being taken at all.
func (g *going) refusal(d api.Do) api.Errno {
	asked, known := stateAsked()[d.Kind]
	if !known {
		return api.ErrKind
	}
	if d.N < 0 || d.N >= len(g.Shards) {
		return api.ErrNone
	}
	if g.Shards[d.N].State != asked {
		return api.ErrFit
	}
	return api.OK
}

// freeze shuts shard n for good: its head is the book's from then on.
func (g *going) freeze(n int) api.Answer {
	s := &g.Shards[n]
	// Nothing is wrong with entries that submit took.
	root, _ := tree.Root(s.Entries)
	head := api.Head{Size: len(s.Entries), Root: root}
	s.State = api.Frozen
	g.Book = append(g.Book, api.Record{Shard: n, From: s.From, To: s.To, Head: head})
	return taken(n, head)
}

func (g *going) export(n int) api.Answer {
	s := &g.Shards[n]
	// Nothing is wrong with entries that submit took.
	s.Manifest, _ = shelf.Export(s.Entries)
	s.State = api.Archived
	return taken(n, s.Manifest.Head)
}

// retire lets go of shard n's entries, if its manifest still has them.
func (g *going) retire(n int) api.Answer {
	s := &g.Shards[n]
	if _, fault := shelf.Verify(s.Manifest); fault.Err != api.OK {
		return refused(fault.Err)
	}
	s.State = api.Retired
	s.Entries = nil
	return taken(n, s.Manifest.Head)
}

// spoil turns a byte of what was laid away of shard d.N.
func (g *going) spoil(d api.Do) api.Answer {
	segments := g.Shards[d.N].Manifest.Segments
	if d.Segment < 0 || d.Segment >= len(segments) {
		return refused(api.ErrNone)
	}
	packed := segments[d.Segment].Packed
	if d.At < 0 || d.At >= len(packed) {
		return refused(api.ErrRange)
	}
	packed[d.At] ^= d.By
	return api.Answer{Shard: d.N}
}

func refused(err api.Errno) api.Answer {
	return api.Answer{Err: err}
}

// taken answers that a step was taken with shard n. The fleet keeps its head,
// so the answer has a copy.
func taken(n int, head api.Head) api.Answer {
	return api.Answer{Shard: n, Head: copyOf(head)}
}

func copyOf(h api.Head) api.Head {
	return api.Head{Size: h.Size, Root: bytes.Clone(h.Root)}
}
