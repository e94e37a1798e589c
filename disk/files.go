package disk

import "bytes"

const (
	appended = iota
	truncated
	renamed
	removed
)

// change is one thing that was done to files that allow it.
type change struct {
	kind  int
	name  string
	to    string // of a rename
	bytes []byte // of an append
	size  int    // of a truncation
}

// files are bytes by their names. Those that are synced share no memory with those of now: an append writes in place.
type files map[string][]byte

func (f files) do(c change) {
	switch c.kind {
	case appended:
		f[c.name] = append(f[c.name], c.bytes...)
	case truncated:
		f[c.name] = f[c.name][:c.size]
	case renamed:
		b := f[c.name]
		// The old name goes first, as the new one may be the same.
		delete(f, c.name)
		f[c.to] = b
	case removed:
		delete(f, c.name)
	}
}

// tear does a part of a change that a crash cut off. Only an append has bytes, and so parts.
func (f files) tear(c change, torn int) {
	if len(c.bytes) == 0 {
		return
	}
	c.bytes = c.bytes[:within(torn, len(c.bytes)-1)]
	if len(c.bytes) > 0 {
		f.do(c)
	}
}

func (f files) used() int {
	n := 0
	for _, b := range f {
		n += len(b)
	}
	return n
}

func (f files) copied() files {
	c := make(files, len(f))
	for name, b := range f {
		c[name] = bytes.Clone(b)
	}
	return c
}
