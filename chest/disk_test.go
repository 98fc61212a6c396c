package chest

import (
	"bytes"
	"fmt"
	"math"
	"math/rand"
	"slices"
	"testing"

	"pommel/api"
)

// plainDisk is a disk by the chapter's definition: of each page what was written last and, if that is not synced, what lies beneath.
type plainDisk struct {
	written map[int][]byte
	beneath map[int][]byte // the pages that are not synced
	down    bool
	armed   bool
	left    int
}

func newPlainDisk() *plainDisk {
	return &plainDisk{written: map[int][]byte{}, beneath: map[int][]byte{}}
}

func filled(b []byte) []byte {
	return append(slices.Clone(b), make([]byte, api.PageSize-len(b))...)
}

func (p *plainDisk) read(page int) []byte {
	return filled(p.written[page])
}

// goesDown counts an act and reports whether it takes the disk down.
func (p *plainDisk) goesDown() bool {
	if p.armed {
		p.left--
		p.armed = p.left > 0
		p.down = !p.armed
	}
	return p.down
}

func (p *plainDisk) write(page int, b []byte) api.Errno {
	if page < 0 || page > 255 || len(b) > 256 {
		return api.ErrArg
	}
	if p.down {
		return api.ErrDown
	}
	if _, ok := p.beneath[page]; !ok {
		p.beneath[page] = p.read(page)
	}
	p.written[page] = filled(b)
	if p.goesDown() {
		return api.ErrDown
	}
	return api.OK
}

func (p *plainDisk) sync() api.Errno {
	if p.down || p.goesDown() {
		return api.ErrDown
	}
	clear(p.beneath)
	return api.OK
}

func (p *plainDisk) arm(n int) {
	p.armed, p.left = n >= 1, n
}

func (p *plainDisk) restart(keep int) {
	if keep < 0 {
		keep = 0
	}
	for page, old := range p.beneath {
		kept := keep % 257
		p.written[page] = slices.Concat(p.read(page)[:kept], old[kept:])
	}
	clear(p.beneath)
	p.down, p.armed = false, false
}

func (p *plainDisk) clone() *plainDisk {
	clone := newPlainDisk()
	for page, b := range p.written {
		clone.written[page] = slices.Clone(b)
	}
	for page, b := range p.beneath {
		clone.beneath[page] = slices.Clone(b)
	}
	clone.down, clone.armed, clone.left = p.down, p.armed, p.left
	return clone
}

// checkSame checks that all pages are the same.
func (p *plainDisk) checkSame(t *testing.T, what string, d *Disk) {
	t.Helper()
	if d.Down() != p.down {
		t.Fatalf("%s: down %t, want %t", what, d.Down(), p.down)
	}
	for page := range api.MaxPages {
		if got, want := d.Read(page), p.read(page); !bytes.Equal(got, want) {
			t.Fatalf("%s: the page %d is %q, want %q", what, page, got, want)
		}
	}
}

var keeps = []int{0, 1, 2, 100, 255, api.PageSize, api.PageSize + 1, api.PageSize + 2, 2*api.PageSize + 1, 2*api.PageSize + 2, 1 << 40, math.MaxInt, -1, -300, math.MinInt}

func TestNewDisk(t *testing.T) {
	d := NewDisk()
	newPlainDisk().checkSame(t, "a new disk", d)
	if n := actsUntilDown(d); n != mostActs {
		t.Errorf("a new disk goes down after %d acts", n)
	}
	if NewDisk() == d {
		t.Error("two new disks are one")
	}
}

// someDeed does a call on a disk and on a plain one, and checks that both return the same.
func someDeed(t *testing.T, r *rand.Rand, d *Disk, p *plainDisk) {
	t.Helper()
	switch r.Intn(12) {
	case 0, 1, 2, 3, 4:
		page, b := r.Intn(4)*85, make([]byte, []int{0, 1, 100, 255, 256}[r.Intn(5)])
		r.Read(b)
		checkErrno(t, fmt.Sprintf("Write(%d, %d bytes)", page, len(b)), d.Write(page, b), p.write(page, b))
	case 5:
		page, b := r.Intn(258)-1, make([]byte, r.Intn(258))
		r.Read(b)
		checkErrno(t, fmt.Sprintf("Write(%d, %d bytes)", page, len(b)), d.Write(page, b), p.write(page, b))
	case 6, 7:
		checkErrno(t, "Sync", d.Sync(), p.sync())
	case 8, 9:
		n := r.Intn(8) - 1
		d.Arm(n)
		p.arm(n)
	case 10:
		keep := keeps[r.Intn(len(keeps))]
		d.Restart(keep)
		p.restart(keep)
	case 11:
		keep := r.Intn(600) - 10
		d.Restart(keep)
		p.restart(keep)
	}
}

func TestDiskByDefinition(t *testing.T) {
	r := rand.New(rand.NewSource(1))
	for range 60 {
		d, p := NewDisk(), newPlainDisk()
		for range 60 {
			someDeed(t, r, d, p)
			p.checkSame(t, "after a call", d)
			if r.Intn(10) == 0 {
				d, p = d.Clone(), p.clone()
			}
		}
	}
}

func TestWrite(t *testing.T) {
	long := bytes.Repeat([]byte{7}, api.PageSize)
	for _, page := range []int{0, 1, 100, api.MaxPages - 1} {
		for _, n := range []int{0, 1, 2, 255, api.PageSize} {
			d, p := NewDisk(), newPlainDisk()
			for _, b := range [][]byte{nil, long[:n], long, long[:n], {}} { // also where something longer was
				checkErrno(t, "Write", d.Write(page, b), api.OK)
				p.write(page, b)
				p.checkSame(t, fmt.Sprintf("Write(%d, %d bytes)", page, len(b)), d)
			}
		}
	}
}

func TestWriteErrors(t *testing.T) {
	d := NewDisk()
	d.Write(3, []byte("three"))
	d.Arm(3)
	up := diskText(d)
	down := d.Clone()
	down.Arm(1)
	down.Write(4, []byte("four"))
	downText := diskText(down)
	long := make([]byte, 100000)
	for _, c := range []struct {
		page, bytes int
		up, down    api.Errno
	}{
		{-1, 0, api.ErrArg, api.ErrArg},
		{-1, 1, api.ErrArg, api.ErrArg},
		{api.MaxPages, 1, api.ErrArg, api.ErrArg},
		{math.MinInt, 1, api.ErrArg, api.ErrArg},
		{math.MaxInt, 1, api.ErrArg, api.ErrArg},
		{1 << 32, 1, api.ErrArg, api.ErrArg},
		{0, api.PageSize + 1, api.ErrArg, api.ErrArg},
		{api.MaxPages - 1, api.PageSize + 1, api.ErrArg, api.ErrArg},
		{5, len(long), api.ErrArg, api.ErrArg},
		{-1, api.PageSize + 1, api.ErrArg, api.ErrArg},
		{0, 1, api.OK, api.ErrDown},
		{0, 0, api.OK, api.ErrDown},
		{api.MaxPages - 1, api.PageSize, api.OK, api.ErrDown},
	} {
		what := fmt.Sprintf("Write(%d, %d bytes)", c.page, c.bytes)
		e, f := d.Clone().Write(c.page, long[:c.bytes]), down.Write(c.page, long[:c.bytes])
		if e != c.up || f != c.down {
			t.Errorf("%s: %d, down %d, want %d, %d", what, e, f, c.up, c.down)
		}
		if c.up != api.OK {
			d.Write(c.page, long[:c.bytes])
		}
	}
	checkErrno(t, "Sync", down.Sync(), api.ErrDown)
	if diskText(d) != up || diskText(down) != downText { // P6; nor is a refused call an act
		t.Error("a refused call changes a disk")
	}
}

func TestRead(t *testing.T) {
	d := NewDisk()
	d.Write(0, []byte("first"))
	d.Write(api.MaxPages-1, []byte("last"))
	d.Sync()
	d.Write(api.MaxPages-1, []byte("then"))
	d.Arm(1)
	d.Sync()
	for page, want := range map[int]string{0: "first", api.MaxPages - 1: "then", 1: ""} {
		if got := d.Read(page); !bytes.Equal(got, filled([]byte(want))) {
			t.Errorf("Read(%d) = %q", page, got)
		}
	}
	for _, page := range []int{-1, api.MaxPages, math.MinInt, math.MaxInt, 1 << 32} {
		if got := d.Read(page); len(got) != 0 {
			t.Errorf("Read(%d) = %q", page, got)
		}
	}
}

// TestRestart: all keeps, for pages that are synced, written once and twice since, longer and shorter than before.
func TestRestart(t *testing.T) {
	old, once, twice := bytes.Repeat([]byte("o"), 200), bytes.Repeat([]byte("n"), 220), bytes.Repeat([]byte("t"), 90)
	d, p := NewDisk(), newPlainDisk()
	put := func(page int, b []byte) {
		d.Write(page, b)
		p.write(page, b)
	}
	for page := range 4 {
		put(page, old)
	}
	d.Sync()
	p.sync()
	put(1, once)
	put(2, once)
	put(2, twice)
	put(3, nil)
	put(255, once)
	for _, down := range []bool{false, true} {
		if down {
			d.Arm(1)
			p.arm(1)
			d.Sync()
			p.sync()
		}
		for _, keep := range slices.Concat(keeps, numbers(-2, 520)) {
			e, q := d.Clone(), p.clone()
			e.Restart(keep)
			q.restart(keep)
			what := fmt.Sprintf("Restart(%d)", keep)
			q.checkSame(t, what, e)
			e.Restart(0) // all counts as synced
			q.checkSame(t, what+", Restart(0)", e)
			checkErrno(t, "Sync", e.Sync(), api.OK)
		}
	}
}

// numbers returns the numbers from one to before another one.
func numbers(from, to int) []int {
	var list []int
	for n := from; n < to; n++ {
		list = append(list, n)
	}
	return list
}

// TestArm: the n-th act takes the disk down, a Write that does it is done, a Sync is not.
func TestArm(t *testing.T) {
	for n := 1; n < 6; n++ {
		for _, last := range []string{"Write", "Sync"} {
			d := NewDisk()
			d.Write(0, []byte("old"))
			d.Sync()
			d.Arm(n)
			for i := 1; i < n; i++ {
				checkErrno(t, "an act before", d.Write(i, []byte("x")), api.OK)
				checkErrno(t, "no act", d.Write(-1, nil), api.ErrArg)
			}
			if d.Down() {
				t.Fatalf("Arm(%d): down before", n)
			}
			d2 := d.Clone()
			if last == "Write" {
				checkErrno(t, last, d.Write(0, []byte("new")), api.ErrDown)
			} else {
				checkErrno(t, last, d.Sync(), api.ErrDown)
			}
			if !d.Down() || d2.Down() {
				t.Fatalf("Arm(%d), %s: down %t, its clone %t", n, last, d.Down(), d2.Down())
			}
			if got := string(d.Read(0)[:3]); (got == "new") != (last == "Write") {
				t.Errorf("Arm(%d), %s: the page is %q", n, last, got)
			}
			checkErrno(t, "Write", d.Write(0, nil), api.ErrDown)
			checkErrno(t, "Sync", d.Sync(), api.ErrDown)
			d.Restart(0)
			if got := string(d.Read(0)[:3]); got != "old" || n > 1 && d.Read(1)[0] != 0 {
				t.Errorf("Arm(%d), %s: the pages are %q, %q", n, last, got, d.Read(1))
			}
			if d.Down() || actsUntilDown(d) != mostActs {
				t.Error("down or armed after Restart")
			}
		}
	}
}

func TestArmAgain(t *testing.T) {
	for _, c := range []struct {
		first, acts, second, want int
	}{
		{0, 0, 0, mostActs},
		{-1, 0, -1, mostActs},
		{math.MinInt, 0, math.MinInt, mostActs},
		{1, 0, 1, 0},
		{2, 0, 2, 1},
		{2, 1, 2, 1},
		{2, 1, 1, 0},
		{1, 0, 0, mostActs},
		{1, 0, -1, mostActs},
		{3, 2, math.MinInt, mostActs},
		{5, 4, 7, 6},
		{0, 3, 4, 3},
		{math.MaxInt, 3, math.MaxInt, mostActs},
		{math.MaxInt, 3, 3, 2},
	} {
		d := NewDisk()
		d.Arm(c.first)
		for range c.acts {
			checkErrno(t, "Sync", d.Sync(), api.OK)
		}
		d.Arm(c.second)
		if n := actsUntilDown(d); n != c.want {
			t.Errorf("Arm(%d), %d acts, Arm(%d): %d acts, want %d", c.first, c.acts, c.second, n, c.want)
		}
		d.Restart(0) // of a disk that is up
		if n := actsUntilDown(d); n != mostActs {
			t.Errorf("armed after Restart: %d", n)
		}
	}
	down := NewDisk()
	down.Arm(1)
	down.Sync()
	down.Arm(2) // no act can follow before the restart
	if !down.Down() {
		t.Error("Arm takes a disk up")
	}
	down.Restart(0)
	if n := actsUntilDown(down); n != mostActs {
		t.Errorf("armed after Restart: %d", n)
	}
}

func TestDiskClone(t *testing.T) {
	r := rand.New(rand.NewSource(2))
	for range 40 {
		d, p := NewDisk(), newPlainDisk()
		for range 20 {
			someDeed(t, r, d, p)
		}
		clone, q := d.Clone(), p.clone()
		if diskText(clone) != diskText(d) {
			t.Fatal("a clone is not the same")
		}
		for range 20 {
			someDeed(t, r, d, p)
			someDeed(t, r, clone, q)
			p.checkSame(t, "a disk", d)
			q.checkSame(t, "its clone", clone)
		}
	}
}

// noDisks returns disks that are nil or that no function returned.
func noDisks() []*Disk {
	copied := *NewDisk()
	cloned := *NewDisk().Clone()
	return []*Disk{nil, {}, new(Disk), &copied, &cloned}
}

func TestNoDisk(t *testing.T) {
	for i, d := range noDisks() {
		for range 2 {
			for _, page := range []int{0, 1, api.MaxPages - 1, api.MaxPages, -1} {
				checkErrno(t, "Write", d.Write(page, []byte("x")), api.ErrState)
				checkErrno(t, "Write", d.Write(page, make([]byte, api.PageSize+1)), api.ErrState)
				if b := d.Read(page); b != nil {
					t.Errorf("disk %d: Read = %q", i, b)
				}
			}
			checkErrno(t, "Sync", d.Sync(), api.ErrState)
			d.Arm(1)
			checkErrno(t, "Sync", d.Sync(), api.ErrState)
			if d.Down() || d.Clone() != nil {
				t.Errorf("disk %d: down %t, clone %v", i, d.Down(), d.Clone() != nil)
			}
			if c, e := Open(d); c != nil || e != api.ErrArg {
				t.Errorf("disk %d: Open = %v, %d", i, c != nil, e)
			}
			d.Restart(3)
		}
	}
	var d Disk
	d.Arm(1)
	d.Restart(3)
	if d != (Disk{}) {
		t.Error("Arm or Restart changes a zero value")
	}
}

// TestDiskMemory: what is written is not kept, what is read is new (R5).
func TestDiskMemory(t *testing.T) {
	d := NewDisk()
	b := []byte("abc")
	d.Write(1, b)
	if string(b) != "abc" {
		t.Errorf("Write changes %q", b)
	}
	b[0] = 'x'
	first, second := d.Read(1), d.Read(1)
	if string(first[:3]) != "abc" {
		t.Errorf("Read = %q", first[:3])
	}
	clear(first)
	_ = append(first[:2], "zzz"...)
	if string(second[:3]) != "abc" || string(d.Read(1)[:3]) != "abc" {
		t.Error("results share memory")
	}
	whole := bytes.Repeat([]byte{5}, 1000)
	d.Write(2, whole[:3])
	if got := d.Read(2); !bytes.Equal(got, filled([]byte{5, 5, 5})) {
		t.Errorf("Read = %v", got)
	}
}
