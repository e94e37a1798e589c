package disk_test

import (
	"maps"
	"math/rand"
	"slices"
	"strings"
	"testing"

	"tailrace/api"
	"tailrace/disk"
)

// state is what a disk holds at one time.
type state map[string]string

func (s state) used() int {
	n := 0
	for _, b := range s {
		n += len(b)
	}
	return n
}

// model is a disk that is told in the plainest way: it keeps every state since the last that was synced.
type model struct {
	room, fuse int
	down       bool
	states     []state  // the first is what is synced
	names      []string // of what made each state but the first: the file, if it was an Append
	laid       []string // and its bytes
}

func newModel(room int) *model {
	return &model{room: room, fuse: -1, states: []state{{}}}
}

func (m *model) last() state { return m.states[len(m.states)-1] }

func (m *model) add(name, bytes string, turn func(s state)) {
	s := maps.Clone(m.last())
	turn(s)
	m.states = append(m.states, s)
	m.names = append(m.names, name)
	m.laid = append(m.laid, bytes)
}

func (m *model) keepOnly(s state) {
	m.states, m.names, m.laid = []state{s}, nil, nil
}

func (m *model) goesDown() bool {
	if m.down {
		return true
	}
	if m.fuse == 0 {
		m.down = true
		return true
	}
	if m.fuse > 0 {
		m.fuse--
	}
	return false
}

func (m *model) append(name, b string) api.Errno {
	_, old := m.last()[name]
	switch {
	case m.goesDown():
		return api.ErrDown
	case name == "" || len(name) > api.MaxName:
		return api.ErrArg
	case m.last().used()+len(b) > m.room, !old && len(m.last()) == api.MaxFiles:
		return api.ErrFull
	}
	m.add(name, b, func(s state) { s[name] += b })
	return api.OK
}

func (m *model) truncate(name string, size int) api.Errno {
	b, ok := m.last()[name]
	switch {
	case m.goesDown():
		return api.ErrDown
	case !ok:
		return api.ErrNone
	case size < 0 || size > len(b):
		return api.ErrArg
	}
	m.add("", "", func(s state) { s[name] = b[:size] })
	return api.OK
}

func (m *model) rename(from, to string) api.Errno {
	b, ok := m.last()[from]
	switch {
	case m.goesDown():
		return api.ErrDown
	case to == "" || len(to) > api.MaxName:
		return api.ErrArg
	case !ok:
		return api.ErrNone
	}
	m.add("", "", func(s state) {
		delete(s, from)
		s[to] = b
	})
	return api.OK
}

func (m *model) remove(name string) api.Errno {
	_, ok := m.last()[name]
	switch {
	case m.goesDown():
		return api.ErrDown
	case !ok:
		return api.ErrNone
	}
	m.add("", "", func(s state) { delete(s, name) })
	return api.OK
}

func (m *model) sync() api.Errno {
	if m.goesDown() {
		return api.ErrDown
	}
	m.keepOnly(m.last())
	return api.OK
}

// among brings n into 0 to count - 1 by walking there, count by count.
func among(n, count int) int {
	for n < 0 {
		n += count
	}
	for n >= count {
		n -= count
	}
	return n
}

func (m *model) crash(keep, torn int) int {
	k := among(keep, len(m.states))
	s := maps.Clone(m.states[k])
	if k < len(m.laid) && m.laid[k] != "" {
		if t := among(torn, len(m.laid[k])); t > 0 {
			s[m.names[k]] += m.laid[k][:t]
		}
	}
	m.keepOnly(s)
	m.down, m.fuse = false, -1
	return k
}

// agrees checks all that d tells against m.
func agrees(t *testing.T, d *disk.Disk, m *model) {
	t.Helper()
	want := m.last()
	if m.down {
		want = nil
	}
	names := d.Names()
	if !slices.Equal(names, slices.Sorted(maps.Keys(want))) || d.Used() != want.used() {
		t.Fatalf("names %q, used %d; want %q", names, d.Used(), want)
	}
	for name, b := range want {
		if got, ok := d.Read(name); !ok || string(got) != b {
			t.Fatalf("of %q: %q %t, want %q", name, got, ok, b)
		}
	}
	if d.Pending() != len(m.laid) || d.Down() != m.down {
		t.Fatalf("pending %d, down %t, want %d, %t", d.Pending(), d.Down(), len(m.laid), m.down)
	}
}

// play does one call that r picks on both, and checks that they answer alike.
func play(t *testing.T, r *rand.Rand, d *disk.Disk, m *model) {
	t.Helper()
	name := func() string { return []string{"a", "b", "c", "d", longest, "", tooLong}[r.Intn(20)%7] }
	same := func(call string, got, want api.Errno) {
		t.Helper()
		if got != want {
			t.Fatalf("%s: %d, want %d", call, got, want)
		}
	}
	switch r.Intn(12) {
	case 0, 1, 2, 3:
		n, b := name(), strings.Repeat(string(rune('0'+r.Intn(10))), r.Intn(6))+"z"[:r.Intn(2)]
		same("Append", d.Append(n, []byte(b)), m.append(n, b))
	case 4:
		n, size := name(), r.Intn(9)-1
		same("Truncate", d.Truncate(n, size), m.truncate(n, size))
	case 5, 6:
		from, to := name(), name()
		same("Rename", d.Rename(from, to), m.rename(from, to))
	case 7:
		n := name()
		same("Remove", d.Remove(n), m.remove(n))
	case 8:
		same("Sync", d.Sync(), m.sync())
	case 9:
		if n := r.Intn(40) - 20; r.Intn(3) == 0 {
			d.Fuse(n)
			m.fuse = n
		}
	case 10:
		if n := r.Intn(60); r.Intn(3) == 0 {
			same("Room", d.Room(n), api.OK)
			m.room = n
		}
	case 11:
		keep, torn := r.Intn(40)-20, r.Intn(40)-20
		if got, want := d.Crash(keep, torn), m.crash(keep, torn); got != want {
			t.Fatalf("Crash(%d, %d): %d, want %d", keep, torn, got, want)
		}
	}
}

// 2.1 to 2.5: whatever is done in whatever order, all is told as the plainest disk tells it.
func TestAgreesWithTheModel(t *testing.T) {
	for seed := range int64(300) {
		r := rand.New(rand.NewSource(seed))
		d, m := made(t, 40), newModel(40)
		for range 200 {
			play(t, r, d, m)
			agrees(t, d, m)
		}
	}
}

// 2.5: from any time on, each crash leaves one of the states that the disk went through, or one with a part of the next Append.
func TestEveryCrashOfOneRun(t *testing.T) {
	run := func() (*disk.Disk, *model) {
		d, m := made(t, 99), newModel(99)
		for _, c := range []struct{ call, name, arg string }{
			{"append", "a", "xyz"}, {"append", "b", "12"}, {"sync", "", ""},
			{"append", "a", "3456"}, {"rename", "a", "b"}, {"append", "a", "78"}, {"truncate", "b", "1"},
			{"append", "b", "9"}, {"append", "c", ""}, {"remove", "b", ""}, {"append", "b", "000"},
		} {
			switch c.call {
			case "append":
				do(t, d.Append(c.name, []byte(c.arg)))
				m.append(c.name, c.arg)
			case "rename":
				do(t, d.Rename(c.name, c.arg))
				m.rename(c.name, c.arg)
			case "truncate":
				do(t, d.Truncate(c.name, len(c.arg)))
				m.truncate(c.name, len(c.arg))
			case "remove":
				do(t, d.Remove(c.name))
				m.remove(c.name)
			case "sync":
				do(t, d.Sync())
				m.sync()
			}
		}
		return d, m
	}
	for keep := range 12 {
		for torn := range 6 {
			d, m := run()
			if got, want := d.Crash(keep, torn), m.crash(keep, torn); got != want {
				t.Errorf("Crash(%d, %d): %d, want %d", keep, torn, got, want)
			}
			agrees(t, d, m)
			d.Crash(torn, keep)
			agrees(t, d, m)
		}
	}
}
