package store

import (
	"math"
	"math/rand"
	"slices"
	"strconv"
	"strings"
	"testing"

	"stet/api"
	"stet/disk"
	"stet/files"
	"stet/wire"
)

func newDisk(t *testing.T, n int) *disk.Disk {
	t.Helper()
	d, e := disk.New(n)
	if e != api.OK {
		t.Fatalf("disk.New(%d): %d", n, e)
	}
	return d
}

func opened(t *testing.T, d *disk.Disk) *Store {
	t.Helper()
	s, e := Open(d)
	if s == nil || e != api.OK {
		t.Fatalf("Open: %v, %d", s, e)
	}
	return s
}

func loaded(t *testing.T, d *disk.Disk) []api.File {
	t.Helper()
	return opened(t, d).Load()
}

func wantTold(t *testing.T, told, want api.Errno) {
	t.Helper()
	if told != want {
		t.Fatalf("told %d; want %d", told, want)
	}
}

func wantFiles(t *testing.T, l, want []api.File) {
	t.Helper()
	if !slices.Equal(l, want) {
		t.Fatalf("files %s; want %s", short(l), short(want))
	}
}

// short tells a map so that a failing test can be read.
func short(l []api.File) string {
	var parts []string
	for _, f := range l {
		parts = append(parts, f.Name+" "+strconv.Itoa(len(f.Text))+" "+f.Text[:min(len(f.Text), 3)])
	}
	return "[" + strings.Join(parts, ", ") + "]"
}

// one is a map of one file.
func one(name, letter string, size int) []api.File {
	return []api.File{{Name: name, Text: strings.Repeat(letter, size)}}
}

// fitting is a map of so many bytes, all its texts of one letter.
func fitting(t *testing.T, bytes int, letter string) []api.File {
	t.Helper()
	var l []api.File
	for bytes-len(wire.Files(l)) > 3900 {
		l = append(l, api.File{Name: "a" + strconv.Itoa(10+len(l)), Text: strings.Repeat(letter, 3800)})
	}
	left := bytes - len(wire.Files(l))
	for name := "z"; len(name) <= 24; name += "z" {
		for size := max(0, left-40); size <= min(left, 4000); size++ {
			last := append(slices.Clone(l), api.File{Name: name, Text: strings.Repeat(letter, size)})
			if len(wire.Files(last)) == bytes {
				if !files.Right(last) {
					t.Fatalf("no map of %d bytes", bytes)
				}
				return last
			}
		}
	}
	t.Fatalf("no map of %d bytes", bytes)
	return nil
}

// parts calls do with each way to keep of so many pending writes.
func parts(n int, do func(keep []bool)) {
	for mask := range 1 << n {
		keep := make([]bool, n)
		for i := range keep {
			keep[i] = mask>>i&1 == 1
		}
		do(keep)
	}
}

// everything keeps all that may be pending.
func everything() []bool {
	return slices.Repeat([]bool{true}, 5000)
}

// image is what all sectors of a disk hold.
func image(d *disk.Disk) []string {
	var l []string
	for i := range d.Len() {
		s, _ := d.Read(i)
		l = append(l, s)
	}
	return l
}

// P5.1
func TestRoom(t *testing.T) {
	for _, c := range []struct{ n, want int }{
		{math.MinInt, 0}, {-4096, 0}, {-9, 0}, {-1, 0}, {0, 0}, {1, 0}, {2, 0}, {3, 0},
		{4, 64}, {5, 64}, {6, 128}, {7, 128}, {8, 192}, {9, 192}, {10, 256}, {12, 320},
		{4094, 64 * 2046}, {4095, 64 * 2046}, {4096, 64 * 2047}, {4097, 64 * 2047}, {4098, 64 * 2047}, {4099, 64 * 2047},
		{1 << 20, 64 * 2047}, {1 << 32, 64 * 2047}, {1<<32 + 4, 64 * 2047}, {math.MaxInt, 64 * 2047}, {math.MaxInt - 1, 64 * 2047},
	} {
		if r := Room(c.n); r != c.want {
			t.Errorf("Room(%d) = %d; want %d", c.n, r, c.want)
		}
	}
	for n := 4; n <= 4096; n++ {
		want := 0
		for left := n - 2; left >= 2; left -= 2 {
			want += 64
		}
		if r := Room(n); r != want {
			t.Errorf("Room(%d) = %d; want %d", n, r, want)
		}
	}
}

// P5.1
func TestOpenOnTooFewSectors(t *testing.T) {
	for n := 1; n <= 3; n++ {
		d := newDisk(t, n)
		if s, e := Open(d); s != nil || e != api.ErrArg {
			t.Errorf("Open on %d sectors: %v, %d", n, s, e)
		}
		if d.Pending() != 0 || !slices.Equal(image(d), make([]string, n)) {
			t.Errorf("Open on %d sectors wrote", n)
		}
	}
	for _, n := range []int{4, 5, 6, 7, 100, 4095, 4096} {
		d := newDisk(t, n)
		wantFiles(t, loaded(t, d), nil)
	}
}

// P5.1: neither Open nor Load writes, or uses up anything of a limit.
func TestOpenWritesNothing(t *testing.T) {
	d := newDisk(t, 8)
	check := func() {
		t.Helper()
		was := image(d)
		d.Limit(1)
		for range 5 {
			opened(t, d).Load()
		}
		if d.Pending() != 0 || !slices.Equal(image(d), was) {
			t.Fatal("written")
		}
		wantTold(t, d.Sync(), api.OK)
		wantTold(t, d.Sync(), api.ErrDead)
		opened(t, d).Load()
		d.Crash(nil)
		if !slices.Equal(image(d), was) {
			t.Fatal("written")
		}
	}
	check()
	for _, l := range [][]api.File{one("a", "x", 100), nil, one("b", "y", 150)} {
		wantTold(t, opened(t, d).Commit(l), api.OK)
		check()
	}
	// What a stopped commit has left pending stays pending.
	s := opened(t, d)
	d.Limit(2)
	wantTold(t, s.Commit(one("c", "z", 150)), api.ErrDead)
	n := d.Pending()
	opened(t, d).Load()
	if n != 2 || d.Pending() != n {
		t.Fatalf("%d pending; ahead of it %d", d.Pending(), n)
	}
}

// P5.1, P5.2
func TestCommit(t *testing.T) {
	d := newDisk(t, 8)
	s := opened(t, d)
	wantFiles(t, s.Load(), nil)
	for _, l := range [][]api.File{
		one("a", "x", 100),
		{{Name: "a", Text: ""}, {Name: "b", Text: "\x00\xff,:"}, {Name: "b.c", Text: "5:hello,"}},
		one("a", "y", 0),
		nil,
		one("a", "z", 180),
		one("a", "z", 180),
		{},
		{},
		one("b", "1", 1),
		one("b", "2", 150),
		one("c", "3", 60),
		one("d", "4", 120),
	} {
		wantTold(t, s.Commit(l), api.OK)
		if d.Pending() != 0 {
			t.Fatalf("%d pending", d.Pending())
		}
		wantFiles(t, s.Load(), l)
		wantFiles(t, s.Load(), l)
		wantFiles(t, loaded(t, d), l)
		d.Crash(everything())
		wantFiles(t, loaded(t, d), l)
		s = opened(t, d)
	}
}

// P5.2: the same store commits again and again, each map in the place of the one ahead, be it greater or smaller.
func TestCommitAgain(t *testing.T) {
	d := newDisk(t, 20)
	s := opened(t, d)
	for k := range 300 {
		size := k * 37 % 560
		l := one("a"+strconv.Itoa(k), string(rune('a'+k%26)), size)
		wantTold(t, s.Commit(l), api.OK)
		wantFiles(t, s.Load(), l)
		if d.Pending() != 0 {
			t.Fatalf("%d pending", d.Pending())
		}
		c := d.Copy()
		c.Crash(nil)
		wantFiles(t, loaded(t, c), l)
	}
}

// P5.2: the example.
func TestFourSectors(t *testing.T) {
	d := newDisk(t, 4)
	s := opened(t, d)
	wantTold(t, s.Commit(one("a", "x", 50)), api.OK)
	wantFiles(t, s.Load(), one("a", "x", 50))
	wantTold(t, s.Commit(one("a", "y", 60)), api.ErrFull)
	wantFiles(t, s.Load(), one("a", "x", 50))
	wantTold(t, s.Commit(one("a", "y", 57)), api.ErrFull)
	wantTold(t, s.Commit(one("a", "y", 56)), api.OK)
	wantFiles(t, s.Load(), one("a", "y", 56))
}

// P5.2: on disks of many sizes a map fits that has as many bytes as there is room, behind another such one, and none with a byte more.
func TestWhatJustFits(t *testing.T) {
	sizes := []int{100, 101, 1000, 2001, 3500, 3501}
	for n := 4; n < 64; n++ {
		sizes = append(sizes, n)
	}
	for _, n := range sizes {
		d := newDisk(t, n)
		s := opened(t, d)
		wantTold(t, s.Commit(fitting(t, Room(n)+1, "o")), api.ErrFull)
		wantFiles(t, s.Load(), nil)
		var last []api.File
		for _, letter := range []string{"a", "b", "c"} {
			l := fitting(t, Room(n), letter)
			stopped := d.Copy()
			wantTold(t, s.Commit(l), api.OK)
			wantFiles(t, s.Load(), l)
			wantFiles(t, loaded(t, d), l)
			was := image(d)
			wantTold(t, s.Commit(fitting(t, Room(n)+1, "o")), api.ErrFull)
			wantTold(t, s.Commit(fitting(t, Room(n)+64, "o")), api.ErrFull)
			if d.Pending() != 0 || !slices.Equal(image(d), was) {
				t.Fatalf("on %d sectors: what does not fit is written", n)
			}
			wantFiles(t, s.Load(), l)
			// The whole of it is written next to the whole of the one ahead.
			other := opened(t, stopped)
			stopped.Limit(half(n))
			wantTold(t, other.Commit(l), api.ErrDead)
			stopped.Crash(everything())
			wantFiles(t, loaded(t, stopped), last)
			last = l
		}
	}
}

// P5.2: the greatest map there is, on the greatest disk.
func TestGreatestMap(t *testing.T) {
	full := func(letter string) []api.File {
		var l []api.File
		for k := range 32 {
			l = append(l, api.File{Name: strings.Repeat("n", 22) + strconv.Itoa(10+k), Text: strings.Repeat(letter, 4000)})
		}
		return l
	}
	d := newDisk(t, 4096)
	s := opened(t, d)
	for _, letter := range []string{"a", "b", "c"} {
		wantTold(t, s.Commit(full(letter)), api.OK)
		wantFiles(t, s.Load(), full(letter))
		d.Crash(nil)
		wantFiles(t, loaded(t, d), full(letter))
		s = opened(t, d)
	}
}

// wrongLists are no maps.
func wrongLists() [][]api.File {
	many := []api.File{}
	for k := range 33 {
		many = append(many, api.File{Name: "a" + strconv.Itoa(10+k)})
	}
	return [][]api.File{
		{{Name: "b"}, {Name: "a"}},
		{{Name: "a"}, {Name: "a"}},
		{{Name: ""}},
		{{Name: "A"}},
		{{Name: "a b"}},
		{{Name: strings.Repeat("a", 25)}},
		{{Name: "a", Text: strings.Repeat("x", 4001)}},
		{{Name: "a"}, {Name: "B"}},
		many,
		{{Name: "b", Text: strings.Repeat("x", 300)}, {Name: "a", Text: strings.Repeat("x", 300)}},
	}
}

// P5.2, R2: a list that is no map is told first, then one for which there is no room, then a disk that is dead; none of both changes or uses up anything.
func TestErrorsInOrder(t *testing.T) {
	great := one("a", "x", 300)
	d := newDisk(t, 8)
	s := opened(t, d)
	wantTold(t, s.Commit(one("a", "x", 30)), api.OK)
	wantTold(t, s.Commit(one("b", "y", 40)), api.OK)
	was := image(d)
	for _, limit := range []int{-1, 0, 1, 2, 100} {
		d.Limit(limit)
		for _, l := range wrongLists() {
			wantTold(t, s.Commit(l), api.ErrForm)
		}
		wantTold(t, s.Commit(great), api.ErrFull)
		wantFiles(t, s.Load(), one("b", "y", 40))
		for range limit {
			wantTold(t, d.Sync(), api.OK)
		}
		wantTold(t, d.Sync(), api.ErrDead)
		for _, l := range wrongLists() {
			wantTold(t, s.Commit(l), api.ErrForm)
		}
		wantTold(t, s.Commit(great), api.ErrFull)
		if d.Pending() != 0 || !slices.Equal(image(d), was) {
			t.Fatal("an error wrote")
		}
		d.Crash(nil)
		s = opened(t, d)
		wantFiles(t, s.Load(), one("b", "y", 40))
	}
	wantTold(t, s.Commit(one("c", "z", 50)), api.OK)
	wantFiles(t, loaded(t, d), one("c", "z", 50))
}

// P5.2: a disk that is dead is told of each map, also of the empty one and of the one that is there.
func TestDeadDisk(t *testing.T) {
	for _, l := range [][]api.File{nil, one("a", "x", 30), one("b", "y", 180)} {
		for _, limit := range []int{0, -1, math.MinInt} {
			d := newDisk(t, 8)
			wantTold(t, opened(t, d).Commit(one("a", "x", 30)), api.OK)
			s := opened(t, d)
			d.Limit(limit)
			wantTold(t, s.Commit(l), api.ErrDead)
			d.Crash(everything())
			wantFiles(t, loaded(t, d), one("a", "x", 30))
		}
	}
}

// P5.2, P5.4: a commit that tells a limit's error leaves the store's files, for whoever still asks it.
func TestLoadBehindAStop(t *testing.T) {
	for limit := range 12 {
		d := newDisk(t, 8)
		s := opened(t, d)
		wantTold(t, s.Commit(one("a", "x", 150)), api.OK)
		d.Limit(limit)
		want := one("a", "x", 150)
		if s.Commit(one("b", "y", 170)) == api.OK {
			want = one("b", "y", 170)
		}
		wantFiles(t, s.Load(), want)
	}
}

// crashes walks each way to stop a commit of one of these maps, each crash behind it, and what follows.
type crashes struct {
	t     *testing.T
	maps  [][]api.File
	whole int
}

func (c *crashes) walk(d *disk.Disk, has []api.File, left int) {
	c.t.Helper()
	wantFiles(c.t, loaded(c.t, d), has)
	if left == 0 {
		return
	}
	for _, next := range c.maps {
		for limit := 0; c.stop(d, has, next, limit, left); limit++ {
		}
	}
}

// stop commits with a limit, and tells whether the disk stopped.
func (c *crashes) stop(from *disk.Disk, has, next []api.File, limit, left int) bool {
	d := from.Copy()
	s := opened(c.t, d)
	d.Limit(limit)
	told := s.Commit(next)
	if told == api.OK {
		if d.Pending() != 0 {
			c.t.Fatalf("%d pending", d.Pending())
		}
		c.whole++
		c.behind(d, nil, next, next, left)
		c.behind(d, everything(), next, next, left)
		return false
	}
	wantTold(c.t, told, api.ErrDead)
	parts(d.Pending(), func(keep []bool) { c.behind(d, keep, has, next, left) })
	return true
}

// behind is a crash: there is one of both maps, and behind more crashes there is the same one.
func (c *crashes) behind(from *disk.Disk, keep []bool, has, next []api.File, left int) {
	d := from.Copy()
	d.Crash(keep)
	l := loaded(c.t, d)
	if !slices.Equal(l, has) && !slices.Equal(l, next) {
		c.t.Fatalf("from %s to %s, kept %v: %s", short(has), short(next), keep, short(l))
	}
	for _, again := range [][]bool{nil, everything()} {
		d.Crash(again)
		wantFiles(c.t, loaded(c.t, d), l)
	}
	c.walk(d, l, left-1)
}

// P5.3, P5.4: each limit from none up to all that a commit uses, with each part of what is pending kept, and the same with what is there behind that.
func TestEachStopAndEachCrash(t *testing.T) {
	for n := 8; n <= 9; n++ {
		c := &crashes{t: t, maps: [][]api.File{nil, one("a", "1", 20), one("a", "2", 110), one("b", "3", 180)}}
		c.walk(newDisk(t, n), nil, 2)
		for _, first := range c.maps {
			d := newDisk(t, n)
			wantTold(t, opened(t, d).Commit(first), api.OK)
			c.walk(d, first, 2)
			second := one("c", "4", 183)
			wantTold(t, opened(t, d).Commit(second), api.OK)
			c.walk(d, second, 2)
		}
		if c.whole < 1000 {
			t.Fatalf("only %d commits were done", c.whole)
		}
	}
}

// P5.3: three stops, one behind the other, on the smallest disk there is.
func TestThreeStops(t *testing.T) {
	c := &crashes{t: t, maps: [][]api.File{nil, one("a", "1", 56), one("a", "2", 56)}}
	c.walk(newDisk(t, 4), nil, 4)
}

// P5.2, P5.3: a commit that had all of the limit that it needs is done, one with a step less is not, and the last step decides.
func TestLimitThatIsJustEnough(t *testing.T) {
	for _, l := range [][]api.File{nil, one("a", "x", 20), one("a", "x", 150)} {
		d := newDisk(t, 8)
		wantTold(t, opened(t, d).Commit(one("b", "y", 60)), api.OK)
		enough := 0
		for {
			c := d.Copy()
			s := opened(t, c)
			c.Limit(enough)
			if s.Commit(l) == api.OK {
				wantTold(t, c.Sync(), api.ErrDead)
				c.Crash(nil)
				wantFiles(t, loaded(t, c), l)
				break
			}
			enough++
		}
		for limit := range enough {
			c := d.Copy()
			s := opened(t, c)
			c.Limit(limit)
			wantTold(t, s.Commit(l), api.ErrDead)
			c.Crash(nil)
			wantFiles(t, loaded(t, c), one("b", "y", 60))
		}
	}
}

// P5.4: a store that is opened behind a stop without a crash, with what was left still pending, mixes nothing either.
func TestOpenWithoutACrash(t *testing.T) {
	a, b, c := one("a", "1", 170), one("b", "2", 100), one("c", "3", 180)
	for first := range 8 {
		for second := range 12 {
			for _, anew := range []bool{true, false} {
				d := newDisk(t, 8)
				s := opened(t, d)
				wantTold(t, s.Commit(a), api.OK)
				d.Limit(first)
				s.Commit(b)
				if anew {
					s = opened(t, d)
				}
				d.Limit(second)
				told := s.Commit(c)
				parts(d.Pending(), func(keep []bool) {
					crashed := d.Copy()
					crashed.Crash(keep)
					l := loaded(t, crashed)
					if told == api.OK {
						wantFiles(t, l, c)
					}
					if !slices.Equal(l, a) && !slices.Equal(l, b) && !slices.Equal(l, c) {
						t.Fatalf("limits %d and %d, kept %v: %s", first, second, keep, short(l))
					}
				})
			}
		}
	}
}

// P5.3: a store opened on a copy of the disk goes its own way.
func TestCopiedDisk(t *testing.T) {
	d := newDisk(t, 8)
	s := opened(t, d)
	wantTold(t, s.Commit(one("a", "1", 170)), api.OK)
	c := d.Copy()
	wantTold(t, opened(t, c).Commit(one("b", "2", 170)), api.OK)
	wantTold(t, opened(t, c).Commit(one("c", "3", 170)), api.OK)
	wantFiles(t, s.Load(), one("a", "1", 170))
	wantFiles(t, loaded(t, d), one("a", "1", 170))
	wantFiles(t, loaded(t, c), one("c", "3", 170))
}

// P5.2, R4: a list that is handed in is neither changed nor kept, nor the room behind it.
func TestListsStayTheirOwners(t *testing.T) {
	room := []api.File{{Name: "a", Text: "1"}, {Name: "b", Text: "2"}, {Name: "c", Text: "3"}}
	want := slices.Clone(room)
	s := opened(t, newDisk(t, 8))
	wantTold(t, s.Commit(room[:2]), api.OK)
	wantFiles(t, room, want)
	room[0], room[1].Text = api.File{Name: "z", Text: "9"}, "8"
	wantFiles(t, s.Load(), want[:2])
	wrong := []api.File{{Name: "b"}, {Name: "a"}, {Name: "c"}}
	wantTold(t, s.Commit(wrong[:2]), api.ErrForm)
	wantFiles(t, wrong, []api.File{{Name: "b"}, {Name: "a"}, {Name: "c"}})
}

// P5.1, R4: what is loaded is the caller's.
func TestLoadIsNewMemory(t *testing.T) {
	want := []api.File{{Name: "a", Text: "1"}, {Name: "b", Text: "2"}, {Name: "c", Text: "3"}}
	s := opened(t, newDisk(t, 8))
	wantTold(t, s.Commit(want), api.OK)
	first, second := s.Load(), s.Load()
	for i := range first {
		first[i] = api.File{Name: "z", Text: "9"}
	}
	first = append(first[:1], api.File{Name: "y"}, api.File{Name: "x"}, api.File{Name: "w"}, api.File{Name: "v"})
	wantFiles(t, second, want)
	wantFiles(t, s.Load(), want)
	wantTold(t, s.Commit(want[:1]), api.OK)
	wantFiles(t, second, want)
	if len(first) != 5 {
		t.Fatal("lost what was appended")
	}
}

// P5.2 to P5.4: long ways of commits, stops, crashes and wrong lists, on disks of many sizes.
func TestLongWays(t *testing.T) {
	for seed := range int64(150) {
		r := rand.New(rand.NewSource(seed))
		n := 4 + r.Intn(30)
		d := newDisk(t, n)
		s := opened(t, d)
		var has []api.File
		for step := range 120 {
			next := randomMap(r, step)
			limit := r.Intn(40)
			if r.Intn(3) > 0 {
				d.Limit(limit)
			}
			told := s.Commit(next)
			fits := len(wire.Files(next)) <= Room(n)
			switch {
			case !fits:
				wantTold(t, told, api.ErrFull)
			case told == api.OK:
				has = next
			default:
				wantTold(t, told, api.ErrDead)
			}
			if told != api.ErrDead {
				wantFiles(t, s.Load(), has)
				if d.Pending() != 0 {
					t.Fatalf("seed %d, step %d: %d pending", seed, step, d.Pending())
				}
			}
			if told == api.ErrDead || r.Intn(3) == 0 {
				crashAtRandom(r, d)
				s = opened(t, d)
				l := s.Load()
				if told == api.ErrDead && slices.Equal(l, next) {
					has = next
				}
				wantFiles(t, l, has)
			} else {
				d.Limit(1 << 20)
			}
		}
	}
}

func randomMap(r *rand.Rand, step int) []api.File {
	var l []api.File
	for k := range r.Intn(4) {
		l = append(l, api.File{Name: string(rune('a' + k)), Text: strings.Repeat(strconv.Itoa(step%10), r.Intn(300))})
	}
	return l
}

func crashAtRandom(r *rand.Rand, d *disk.Disk) {
	keep := make([]bool, r.Intn(d.Pending()+3))
	for i := range keep {
		keep[i] = r.Intn(2) == 0
	}
	d.Crash(keep)
}
