package disk

import (
	"math"
	"math/rand"
	"slices"
	"strconv"
	"strings"
	"testing"

	"stet/api"
)

const (
	yes = true
	no  = false
)

var (
	full = strings.Repeat("f", 64)
	over = strings.Repeat("o", 65)
)

// model is a disk told by all that was ever done to it: it has no sectors, and looks for the last write each time.
type model struct {
	n       int
	done    []write
	pending []write
	limit   *int
}

func (m *model) copied() *model {
	c := &model{n: m.n, done: slices.Clone(m.done), pending: slices.Clone(m.pending)}
	if m.limit != nil {
		left := *m.limit
		c.limit = &left
	}
	return c
}

func (m *model) read(i int) (string, api.Errno) {
	if i < 0 || i >= m.n {
		return "", api.ErrArg
	}
	for _, w := range slices.Backward(slices.Concat(m.done, m.pending)) {
		if w.sector == i {
			return w.text, api.OK
		}
	}
	return "", api.OK
}

func (m *model) spend() api.Errno {
	if m.limit == nil {
		return api.OK
	}
	if *m.limit <= 0 {
		return api.ErrDead
	}
	*m.limit--
	return api.OK
}

func (m *model) write(i int, s string) api.Errno {
	switch {
	case i < 0 || i >= m.n:
		return api.ErrArg
	case len(s) > 64:
		return api.ErrBig
	}
	e := m.spend()
	if e == api.OK {
		m.pending = append(m.pending, write{i, s})
	}
	return e
}

func (m *model) sync() api.Errno {
	e := m.spend()
	if e == api.OK {
		m.done = append(m.done, m.pending...)
		m.pending = nil
	}
	return e
}

func (m *model) crash(keep []bool) {
	for i := 0; i < len(m.pending) && i < len(keep); i++ {
		if keep[i] {
			m.done = append(m.done, m.pending[i])
		}
	}
	m.pending, m.limit = nil, nil
}

func check(t *testing.T, d *Disk, m *model, after string) {
	t.Helper()
	if d.Len() != m.n || d.Pending() != len(m.pending) {
		t.Fatalf("%s: Len %d, Pending %d; want %d, %d", after, d.Len(), d.Pending(), m.n, len(m.pending))
	}
	for i := -1; i <= m.n; i++ {
		s, e := d.Read(i)
		if wantS, wantE := m.read(i); s != wantS || e != wantE {
			t.Fatalf("%s: Read(%d) = %q, %d; want %q, %d", after, i, s, e, wantS, wantE)
		}
	}
}

// act does one thing to a disk and to its model, and tells both answers.
type act struct {
	name string
	do   func(*Disk, *model) (api.Errno, api.Errno)
}

func writing(i int, s string) act {
	return act{"Write " + strconv.Itoa(i) + " " + s, func(d *Disk, m *model) (api.Errno, api.Errno) {
		return d.Write(i, s), m.write(i, s)
	}}
}

func syncing() act {
	return act{"Sync", func(d *Disk, m *model) (api.Errno, api.Errno) { return d.Sync(), m.sync() }}
}

func limiting(n int) act {
	return act{"Limit " + strconv.Itoa(n), func(d *Disk, m *model) (api.Errno, api.Errno) {
		d.Limit(n)
		left := n
		m.limit = &left
		return 0, 0
	}}
}

func crashing(keep ...bool) act {
	name := "Crash"
	for _, k := range keep {
		name += " " + strconv.FormatBool(k)
	}
	return act{name, func(d *Disk, m *model) (api.Errno, api.Errno) {
		d.Crash(keep)
		m.crash(keep)
		return 0, 0
	}}
}

func made(t *testing.T, n int) *Disk {
	t.Helper()
	d, e := New(n)
	if d == nil || e != api.OK {
		t.Fatalf("New(%d): %d", n, e)
	}
	return d
}

func wantRead(t *testing.T, d *Disk, i int, want string) {
	t.Helper()
	if s, e := d.Read(i); s != want || e != api.OK {
		t.Errorf("Read(%d) = %q, %d; want %q", i, s, e, want)
	}
}

func wantTold(t *testing.T, told, want api.Errno) {
	t.Helper()
	if told != want {
		t.Errorf("told %d; want %d", told, want)
	}
}

func wantPending(t *testing.T, d *Disk, want int) {
	t.Helper()
	if n := d.Pending(); n != want {
		t.Errorf("Pending() = %d; want %d", n, want)
	}
}

// P4.1
func TestNew(t *testing.T) {
	for _, n := range []int{0, -1, -2, -4096, 4097, 4098, 1 << 20, 1 << 32, 1<<32 + 1, math.MaxInt, math.MinInt} {
		if d, e := New(n); d != nil || e != api.ErrArg {
			t.Errorf("New(%d) = %v, %d", n, d, e)
		}
	}
	for _, n := range []int{1, 2, 3, 4, 64, 65, 4095, 4096} {
		d := made(t, n)
		if d.Len() != n {
			t.Errorf("New(%d): Len %d", n, d.Len())
		}
		wantPending(t, d, 0)
		for i := range n {
			wantRead(t, d, i, "")
		}
	}
	if Size != 64 {
		t.Errorf("Size %d", Size)
	}
}

// P4.1: two disks of one size have nothing in common.
func TestNewTwice(t *testing.T) {
	a, b := made(t, 2), made(t, 2)
	a.Write(0, "a")
	a.Sync()
	a.Write(1, "b")
	a.Limit(0)
	wantPending(t, b, 0)
	wantRead(t, b, 0, "")
	wantRead(t, b, 1, "")
	wantTold(t, b.Sync(), api.OK)
}

// P4.1, P4.2
func TestNoSector(t *testing.T) {
	for _, n := range []int{1, 2, 4096} {
		d := made(t, n)
		for _, i := range []int{-1, -2, -n, n, n + 1, 2 * n, 4096, 1 << 32, math.MaxInt, math.MinInt} {
			if s, e := d.Read(i); s != "" || e != api.ErrArg {
				t.Errorf("of %d: Read(%d) = %q, %d", n, i, s, e)
			}
			for _, s := range []string{"", "a", full, over} {
				wantTold(t, d.Write(i, s), api.ErrArg)
			}
		}
		wantPending(t, d, 0)
		wantTold(t, d.Sync(), api.OK)
		for i := range n {
			wantRead(t, d, i, "")
		}
	}
}

// P4.1, P4.2
func TestFirstAndLastSector(t *testing.T) {
	for _, n := range []int{1, 2, 3, 4096} {
		d := made(t, n)
		wantTold(t, d.Write(n-1, "last"), api.OK)
		if n > 1 {
			wantRead(t, d, 0, "")
			wantTold(t, d.Write(0, "first"), api.OK)
			wantRead(t, d, 0, "first")
		}
		wantRead(t, d, n-1, "last")
		wantTold(t, d.Sync(), api.OK)
		wantRead(t, d, n-1, "last")
		for i := 1; i < n-1; i++ {
			wantRead(t, d, i, "")
		}
	}
}

// P4.2
func TestWriteLengths(t *testing.T) {
	d := made(t, 1)
	for n := range 300 {
		d.Write(0, "before")
		at := d.Pending()
		s := strings.Repeat("x", n)
		e := d.Write(0, s)
		if n <= 64 {
			wantTold(t, e, api.OK)
			wantRead(t, d, 0, s)
			wantPending(t, d, at+1)
		} else {
			wantTold(t, e, api.ErrBig)
			wantRead(t, d, 0, "before")
			wantPending(t, d, at)
		}
	}
	// It is bytes that are counted.
	wantTold(t, d.Write(0, strings.Repeat("é", 32)), api.OK)
	wantTold(t, d.Write(0, strings.Repeat("é", 32)+"a"), api.ErrBig)
	wantTold(t, d.Write(0, strings.Repeat("é", 33)), api.ErrBig)
	wantTold(t, d.Write(0, strings.Repeat("x", 1<<16)), api.ErrBig)
	wantRead(t, d, 0, strings.Repeat("é", 32))
}

// P4.2: a text of any bytes stays what it is, pending and synced.
func TestAnyBytes(t *testing.T) {
	d := made(t, 256)
	for c := range 256 {
		wantTold(t, d.Write(c, string([]byte{byte(c), 0, byte(c)})), api.OK)
	}
	for range 2 {
		for c := range 256 {
			wantRead(t, d, c, string([]byte{byte(c), 0, byte(c)}))
		}
		wantTold(t, d.Sync(), api.OK)
	}
}

// P4.1, P4.2: an empty text is one that is written, not one that lacks.
func TestEmptyText(t *testing.T) {
	d := made(t, 1)
	d.Write(0, "a")
	d.Sync()
	wantTold(t, d.Write(0, ""), api.OK)
	wantPending(t, d, 1)
	wantRead(t, d, 0, "")
	lost := d.Copy()
	lost.Crash(nil)
	wantRead(t, lost, 0, "a")
	kept := d.Copy()
	kept.Crash([]bool{yes})
	wantRead(t, kept, 0, "")
	d.Sync()
	wantRead(t, d, 0, "")
}

// P4.1, P4.2: of several pending writes to one sector the last one is read, and stays.
func TestSeveralToOneSector(t *testing.T) {
	d := made(t, 2)
	for k := range 1000 {
		s := strconv.Itoa(k)
		wantTold(t, d.Write(1, s), api.OK)
		wantRead(t, d, 1, s)
		wantPending(t, d, k+1)
	}
	wantRead(t, d, 0, "")
	wantTold(t, d.Sync(), api.OK)
	wantPending(t, d, 0)
	wantRead(t, d, 1, "999")
	d.Write(1, "b")
	d.Write(1, "b")
	d.Write(1, "a")
	d.Write(0, "z")
	wantPending(t, d, 4)
	wantRead(t, d, 1, "a")
	wantTold(t, d.Sync(), api.OK)
	wantRead(t, d, 1, "a")
	wantRead(t, d, 0, "z")
}

// P4.2: a Sync of nothing changes nothing, and what was synced is not done again.
func TestSyncAgain(t *testing.T) {
	d := made(t, 1)
	wantTold(t, d.Sync(), api.OK)
	d.Write(0, "a")
	d.Sync()
	d.Write(0, "b")
	d.Crash(nil)
	wantTold(t, d.Sync(), api.OK)
	wantTold(t, d.Sync(), api.OK)
	wantPending(t, d, 0)
	wantRead(t, d, 0, "a")
}

// P4.2, P4.3: a Write and a Sync use up one each.
func TestLimitIsUsedUp(t *testing.T) {
	for n := range 40 {
		for use := range 3 {
			d := made(t, 1)
			d.Limit(n)
			for k := range n {
				if use == 0 || use == 1 && k%2 == 0 {
					wantTold(t, d.Write(0, strconv.Itoa(k)), api.OK)
				} else {
					wantTold(t, d.Sync(), api.OK)
				}
			}
			was, _ := d.Read(0)
			pending := d.Pending()
			for range 3 {
				wantTold(t, d.Write(0, "dead"), api.ErrDead)
				wantTold(t, d.Write(0, ""), api.ErrDead)
				wantTold(t, d.Sync(), api.ErrDead)
			}
			wantRead(t, d, 0, was)
			wantPending(t, d, pending)
		}
	}
}

// P4.3
func TestLimitThatIsNone(t *testing.T) {
	for _, n := range []int{0, -1, -7, -1 << 40, math.MinInt, math.MinInt + 1} {
		d := made(t, 1)
		d.Write(0, "a")
		d.Limit(n)
		for range 3 {
			wantTold(t, d.Sync(), api.ErrDead)
			wantTold(t, d.Write(0, "b"), api.ErrDead)
		}
		wantPending(t, d, 1)
		wantRead(t, d, 0, "a")
		if d.Len() != 1 {
			t.Errorf("Limit(%d): Len %d", n, d.Len())
		}
		d.Crash(nil)
		wantRead(t, d, 0, "")
		wantTold(t, d.Write(0, "b"), api.OK)
	}
}

// P4.3
func TestLimitOfOne(t *testing.T) {
	d := made(t, 1)
	d.Limit(1)
	wantTold(t, d.Write(0, "a"), api.OK)
	wantTold(t, d.Sync(), api.ErrDead)
	wantPending(t, d, 1)
	d.Limit(1)
	wantTold(t, d.Sync(), api.OK)
	wantPending(t, d, 0)
	wantTold(t, d.Write(0, "b"), api.ErrDead)
	wantRead(t, d, 0, "a")
	wantPending(t, d, 0)
}

// P4.3: the newest limit alone counts, be it more or less than what is left.
func TestLimitAgain(t *testing.T) {
	d := made(t, 1)
	d.Limit(5)
	d.Limit(1)
	wantTold(t, d.Sync(), api.OK)
	wantTold(t, d.Sync(), api.ErrDead)
	d.Limit(2)
	d.Limit(2)
	wantTold(t, d.Sync(), api.OK)
	wantTold(t, d.Sync(), api.OK)
	wantTold(t, d.Sync(), api.ErrDead)
	d.Limit(math.MaxInt)
	wantTold(t, d.Sync(), api.OK)
	d.Limit(0)
	wantTold(t, d.Sync(), api.ErrDead)
}

// P4.2: calls that tell an error use up none, and those that only ask don't either; of several errors the first one that is named is told.
func TestErrorsUseUpNone(t *testing.T) {
	d := made(t, 2)
	d.Limit(2)
	wrong := func() {
		t.Helper()
		for _, i := range []int{-1, 2, 9} {
			wantTold(t, d.Write(i, "a"), api.ErrArg)
			wantTold(t, d.Write(i, over), api.ErrArg)
		}
		wantTold(t, d.Write(0, over), api.ErrBig)
		wantTold(t, d.Write(1, over), api.ErrBig)
		d.Read(0)
		d.Read(2)
		d.Len()
		d.Pending()
		d.Copy()
	}
	wrong()
	wantTold(t, d.Write(1, "a"), api.OK)
	wrong()
	wantTold(t, d.Sync(), api.OK)
	wrong()
	wantTold(t, d.Write(1, "b"), api.ErrDead)
	wantTold(t, d.Sync(), api.ErrDead)
	wrong()
	wantRead(t, d, 0, "")
	wantRead(t, d, 1, "a")
	wantPending(t, d, 0)
}

// P4.3: the example, and each keep of three writes, also ones that are too short and too long.
func TestCrash(t *testing.T) {
	d := made(t, 2)
	d.Write(0, "a")
	d.Sync()
	d.Write(0, "b")
	d.Write(1, "c")
	d.Crash([]bool{no, yes})
	wantRead(t, d, 0, "a")
	wantRead(t, d, 1, "c")
	wantPending(t, d, 0)

	for _, c := range []struct {
		keep        []bool
		zero, first string
	}{
		{nil, "old", ""},
		{[]bool{}, "old", ""},
		{[]bool{no}, "old", ""},
		{[]bool{yes}, "a", ""},
		{[]bool{no, no}, "old", ""},
		{[]bool{no, yes}, "old", "b"},
		{[]bool{yes, no}, "a", ""},
		{[]bool{yes, yes}, "a", "b"},
		{[]bool{no, no, no}, "old", ""},
		{[]bool{no, no, yes}, "c", ""},
		{[]bool{no, yes, no}, "old", "b"},
		{[]bool{no, yes, yes}, "c", "b"},
		{[]bool{yes, no, no}, "a", ""},
		{[]bool{yes, no, yes}, "c", ""},
		{[]bool{yes, yes, no}, "a", "b"},
		{[]bool{yes, yes, yes}, "c", "b"},
		{[]bool{no, no, no, yes}, "old", ""},
		{[]bool{no, no, no, yes, yes, yes, yes}, "old", ""},
		{[]bool{yes, no, no, yes}, "a", ""},
		{[]bool{yes, yes, yes, yes, no, yes}, "c", "b"},
	} {
		d := made(t, 2)
		d.Write(0, "old")
		d.Sync()
		d.Write(0, "a")
		d.Write(1, "b")
		d.Write(0, "c")
		d.Crash(c.keep)
		wantRead(t, d, 0, c.zero)
		wantRead(t, d, 1, c.first)
		wantPending(t, d, 0)
		// What was lost stays lost, and what was kept is not pending any more.
		d.Sync()
		d.Crash([]bool{yes, yes, yes})
		wantRead(t, d, 0, c.zero)
		wantRead(t, d, 1, c.first)
	}
}

// P4.3: places in keep are told from the first pending write on, not from the first one ever.
func TestCrashPlaces(t *testing.T) {
	d := made(t, 3)
	d.Write(0, "a")
	d.Write(1, "b")
	d.Sync()
	d.Write(2, "c")
	d.Write(0, "d")
	d.Crash([]bool{yes, no})
	wantRead(t, d, 0, "a")
	wantRead(t, d, 1, "b")
	wantRead(t, d, 2, "c")
	d.Write(1, "e")
	d.Crash([]bool{yes})
	wantRead(t, d, 1, "e")
}

// P4.3: with a limit that is used up, or left, or never used, there is none behind a crash.
func TestCrashTakesTheLimitAway(t *testing.T) {
	for _, n := range []int{-1, 0, 1, 2, 3, 100} {
		d := made(t, 1)
		d.Limit(n)
		d.Write(0, "a")
		d.Sync()
		d.Write(0, "b")
		d.Crash(nil)
		for range 200 {
			wantTold(t, d.Write(0, "c"), api.OK)
			wantTold(t, d.Sync(), api.OK)
		}
		wantRead(t, d, 0, "c")
		// A limit can be set again.
		d.Limit(0)
		wantTold(t, d.Sync(), api.ErrDead)
	}
}

// P4.3, R4: what is handed in is neither changed nor kept.
func TestKeepStaysItsOwners(t *testing.T) {
	d := made(t, 1)
	d.Write(0, "a")
	d.Write(0, "b")
	room := []bool{yes, no, yes, no, yes}
	d.Crash(room[:2])
	if !slices.Equal(room, []bool{yes, no, yes, no, yes}) {
		t.Errorf("keep is %v", room)
	}
	wantRead(t, d, 0, "a")
	for i := range room {
		room[i] = !room[i]
	}
	wantRead(t, d, 0, "a")
	d.Write(0, "c")
	d.Crash(nil)
	wantRead(t, d, 0, "a")
}

// P4.3: all calls on a copy, and on its original, leave the other one as it was.
func TestCopyGoesItsOwnWay(t *testing.T) {
	base := func() *Disk {
		d := made(t, 3)
		d.Write(0, "a")
		d.Write(1, "b")
		d.Sync()
		d.Write(1, "c")
		d.Write(2, "d")
		d.Limit(2)
		return d
	}
	same := func(d *Disk) {
		t.Helper()
		if d.Len() != 3 {
			t.Errorf("Len %d", d.Len())
		}
		wantPending(t, d, 2)
		wantRead(t, d, 0, "a")
		wantRead(t, d, 1, "c")
		wantRead(t, d, 2, "d")
		wantTold(t, d.Write(0, "x"), api.OK)
		wantRead(t, d, 0, "x")
		wantTold(t, d.Sync(), api.OK)
		wantTold(t, d.Sync(), api.ErrDead)
		d.Crash(nil)
		wantRead(t, d, 0, "x")
		wantRead(t, d, 1, "c")
		wantRead(t, d, 2, "d")
	}
	for _, change := range []func(*Disk){
		func(d *Disk) {},
		func(d *Disk) { d.Write(0, "y") },
		func(d *Disk) { d.Write(1, "y"); d.Write(2, "z") },
		func(d *Disk) { d.Sync() },
		func(d *Disk) { d.Write(2, ""); d.Sync() },
		func(d *Disk) { d.Sync(); d.Sync(); d.Sync() },
		func(d *Disk) { d.Limit(0) },
		func(d *Disk) { d.Limit(100) },
		func(d *Disk) { d.Crash(nil) },
		func(d *Disk) { d.Crash([]bool{no, yes}); d.Write(0, "y"); d.Sync() },
		func(d *Disk) { c := d.Copy(); c.Write(0, "y"); c.Crash([]bool{yes, yes, yes}) },
	} {
		d := base()
		c := d.Copy()
		change(c)
		same(d)
		d = base()
		c = d.Copy()
		change(d)
		same(c)
		d = base()
		c = d.Copy().Copy()
		change(c.Copy())
		change(d)
		same(c)
	}
}

// P4.3: writes behind a copy take no room of one another.
func TestCopyHasItsOwnRoom(t *testing.T) {
	for n := range 70 {
		d := made(t, 2)
		for k := range n {
			d.Write(0, strconv.Itoa(k))
		}
		c := d.Copy()
		c.Write(1, "copy")
		d.Write(1, "original")
		c.Write(0, "copy")
		d.Sync()
		c.Sync()
		wantRead(t, c, 1, "copy")
		wantRead(t, c, 0, "copy")
		wantRead(t, d, 1, "original")
		if n > 0 {
			wantRead(t, d, 0, strconv.Itoa(n-1))
		}
	}
}

// P4.1 to P4.3: each way of a few acts, each one done to a copy, so that all that is behind it shows what an act on a copy did to its original.
func TestEachWayOfAFewActs(t *testing.T) {
	acts := []act{
		writing(0, "a"), writing(0, "b"), writing(1, "c"), writing(1, ""), writing(2, "x"), writing(0, over), syncing(),
		limiting(0), limiting(2), crashing(), crashing(yes), crashing(no, yes), crashing(yes, no, yes, yes, yes),
	}
	var walk func(d *Disk, m *model, way string, left int)
	walk = func(d *Disk, m *model, way string, left int) {
		check(t, d, m, way)
		if left == 0 {
			return
		}
		for _, a := range acts {
			nextD, nextM := d.Copy(), m.copied()
			name := way + ", " + a.name
			if e, want := a.do(nextD, nextM); e != want {
				t.Fatalf("%s: told %d; want %d", name, e, want)
			}
			walk(nextD, nextM, name, left-1)
		}
		check(t, d, m, way)
	}
	walk(made(t, 2), &model{n: 2}, "New 2", 5)
}

func randomAct(r *rand.Rand, n int) act {
	switch r.Intn(12) {
	case 0:
		return syncing()
	case 1:
		keep := make([]bool, r.Intn(12))
		for i := range keep {
			keep[i] = r.Intn(2) == 0
		}
		return crashing(keep...)
	case 2:
		return limiting(r.Intn(20) - 1)
	case 3:
		return writing(r.Intn(n+4)-2, strings.Repeat("l", 60+r.Intn(10)))
	}
	return writing(r.Intn(n), strconv.Itoa(r.Intn(1000)))
}

// P4.1 to P4.3: long ways, without copies between.
func TestLongWays(t *testing.T) {
	for seed := range int64(60) {
		r := rand.New(rand.NewSource(seed))
		n := 1 + r.Intn(9)
		d, m := made(t, n), &model{n: n}
		for step := range 400 {
			a := randomAct(r, n)
			name := "seed " + strconv.FormatInt(seed, 10) + ", step " + strconv.Itoa(step) + ", " + a.name
			if e, want := a.do(d, m); e != want {
				t.Fatalf("%s: told %d; want %d", name, e, want)
			}
			check(t, d, m, name)
		}
	}
}

// P4.4: what was synced stays, and behind a crash a sector holds what it held, or one of the texts that were pending for it.
func TestBehindACrash(t *testing.T) {
	for seed := range int64(300) {
		r := rand.New(rand.NewSource(seed))
		n := 1 + r.Intn(5)
		d := made(t, n)
		held := make([]string, n)
		for round := range 12 {
			could := map[write]bool{}
			for i, s := range held {
				could[write{i, s}] = true
			}
			for k := range r.Intn(8) {
				w := write{r.Intn(n), strconv.Itoa(round) + "." + strconv.Itoa(k)}
				wantTold(t, d.Write(w.sector, w.text), api.OK)
				could[w] = true
			}
			keep := make([]bool, r.Intn(10))
			for i := range keep {
				keep[i] = r.Intn(2) == 0
			}
			d.Crash(keep)
			for i := range held {
				held[i], _ = d.Read(i)
				if !could[write{i, held[i]}] {
					t.Fatalf("seed %d: behind a crash %d holds %q", seed, i, held[i])
				}
			}
			for range r.Intn(3) {
				i := r.Intn(n)
				held[i] = strconv.Itoa(round) + "!"
				d.Write(i, held[i])
			}
			wantTold(t, d.Sync(), api.OK)
			d.Crash([]bool{yes, yes, yes})
			for i := range held {
				wantRead(t, d, i, held[i])
			}
		}
	}
}

// P4.1 to P4.3: a disk that is as great as may be, with many pending writes.
func TestGreatDisk(t *testing.T) {
	const n = 4096
	d := made(t, n)
	for k := range 20 * n {
		wantTold(t, d.Write(k*7%n, strconv.Itoa(k)), api.OK)
	}
	wantPending(t, d, 20*n)
	for range 20 {
		for k := 19 * n; k < 20*n; k++ {
			wantRead(t, d, k*7%n, strconv.Itoa(k))
		}
	}
	keep := make([]bool, 20*n)
	for k := range n {
		keep[10*n+k] = k%2 == 0
	}
	c := d.Copy()
	c.Crash(keep)
	wantPending(t, c, 0)
	for k := range n {
		want := ""
		if k%2 == 0 {
			want = strconv.Itoa(10*n + k)
		}
		wantRead(t, c, (10*n+k)*7%n, want)
	}
	wantTold(t, d.Sync(), api.OK)
	d.Crash(nil)
	for k := 19 * n; k < 20*n; k++ {
		wantRead(t, d, k*7%n, strconv.Itoa(k))
	}
}
