package journal_test

import (
	"bytes"
	"slices"
	"testing"

	"coffret/api"
	"coffret/block"
	"coffret/journal"
)

// TestThereAndBack: what was appended is read, all of it, in its order, synced or not, by way of another Disk, too; Scan tells the place that Bytes tells (P15.8).
func TestThereAndBack(t *testing.T) {
	d := dice(5)
	for range 200 {
		many, epoch := 1+d.below(4), d.epoch()
		h := block.New(8 * 5)
		j := begun(t, h.Disk(), 1, many, epoch)
		var l [][]byte
		for range 30 {
			if b := d.record(3000); len(b) <= j.Room() {
				l = append(l, b)
				wantAppend(t, j, b)
			}
			if d.below(5) == 0 {
				wantSync(t, j)
				h.Crash(nil)
			}
			wantRead(t, "appended", h.Disk(), 1, many, epoch, l...)
			wantScan(t, "appended", sectors(h, 8, 8+8*many), epoch, j.Bytes(), l...)
		}
	}
}

// TestFirstSectors: of the first sectors of an area the records are found whose frames stand there whole (P15.8).
func TestFirstSectors(t *testing.T) {
	d := dice(6)
	for range 300 {
		epoch := d.epoch()
		h := block.New(8 * 3)
		j := begun(t, h.Disk(), 0, 3, epoch)
		var l [][]byte
		ends := []int{0}
		for range 10 {
			if b := d.record(2000); len(b) <= j.Room() {
				l = append(l, b)
				wantAppend(t, j, b)
				ends = append(ends, j.Bytes())
			}
		}
		for first := range 25 {
			many := 0
			for many < len(l) && ends[many+1] <= first*part {
				many++
			}
			wantScan(t, "first sectors", sectors(h, 0, first), epoch, ends[many], l[:many]...)
		}
	}
}

// TestFullArea: a record as long as all the area, and as many of none as fit into it (P15.5, P15.8).
func TestFullArea(t *testing.T) {
	h := block.New(8 * 40)
	j := begun(t, h.Disk(), 2, 38, 3)
	wantAppend(t, j, full(38*8*part-20))
	wantStand(t, "full", j, 38, full(38*8*part-20))
	wantRead(t, "full", h.Disk(), 2, 38, 3, full(38*8*part-20))
	k := begun(t, h.Disk(), 2, 38, 4)
	for range 38 * 8 * 25 {
		wantAppend(t, k, nil)
	}
	wantNoAppend(t, "full", k, nil, api.ErrJournalFull)
	wantRead(t, "full", h.Disk(), 2, 38, 4, make([][]byte, 38*8*25)...)
}

// trial is a journal that is written until the power goes.
type trial struct {
	h                 *block.Hand
	from, many, epoch int
	appended          [][]byte
	safe              int
	underWay          [][]byte // at most one
}

// run appends records, syncs where one of them is nil, and ends where an act is refused.
func (x *trial) run(t *testing.T, l [][]byte) {
	t.Helper()
	j := begun(t, x.h.Disk(), x.from, x.many, x.epoch)
	for _, b := range l {
		var err error
		if b == nil {
			if err = j.Sync(); err == nil {
				x.safe = len(x.appended)
			}
		} else if err = j.Append(b); err == nil {
			x.appended = append(x.appended, b)
		} else {
			x.underWay = [][]byte{b}
		}
		if err != nil && api.Number(err) != api.ErrDown {
			t.Fatalf("%v", err)
		}
		if err != nil {
			return
		}
	}
}

// want asks what is read behind the loss of power: a beginning of all, with at least what is safe.
func (x *trial) want(t *testing.T, what string) {
	t.Helper()
	all := slices.Concat(x.appended, x.underWay)
	l, err := journal.Read(x.h.Disk(), x.from, x.many, x.epoch)
	if err != nil || len(l) < x.safe || len(l) > len(all) || !alike(l, all[:min(len(l), len(all))]) {
		t.Errorf("%s: %d records, %v; %d were appended, %d are safe", what, len(l), err, len(x.appended), x.safe)
	}
}

// keeping is which writes stay by the bits of a number.
func keeping(many, mask int) []bool {
	keep := make([]bool, many)
	for i := range keep {
		keep[i] = mask>>i&1 == 1
	}
	return keep
}

// olds are what may stand in an area of two pages: nothing, garbage, what journals of other epochs wrote.
func olds() map[string][]byte {
	all := [][]byte{full(30), full(30), full(460), full(900), full(60)}
	further := slices.Concat(all, all, all)
	return map[string][]byte{
		"nothing":          nil,
		"garbage":          bytes.Repeat([]byte{9}, 8192),
		"the same":         laidOf(6, all...),
		"the same, longer": laidOf(8, further...),
		"other sizes":      laidOf(9, full(600), full(600), full(600), full(3000)),
		"one byte, many":   laidOf(5, slices.Repeat([][]byte{full(1)}, 150)...),
	}
}

// TestPower: wherever the power goes in a row of appends and syncs, whichever writes stay, over whatever other epochs left (P15.9).
func TestPower(t *testing.T) {
	rows := [][][]byte{
		{full(30), full(30), full(460), full(900), full(60)},
		{full(30), nil, full(30), full(460), nil, full(900), full(60)},
		{full(484), full(484), nil, full(464), {}, full(1)},
		{make([]byte, 700), make([]byte, 10), nil, make([]byte, 300), nil, make([]byte, 300), make([]byte, 0)},
		{full(1500), nil, full(2)},
		{frameOf(7, 1, full(3)), frameOf(7, 0, full(700)), laidOf(7, full(3))},
	}
	for what, old := range olds() {
		for _, row := range rows {
			for acts := range 12 {
				for _, done := range []bool{false, true} {
					for mask := 0; ; mask++ {
						x := &trial{h: block.New(24), from: 1, many: 2, epoch: 7}
						plant(x.h, 8, old)
						x.h.Arm(acts, done)
						x.run(t, row)
						waiting := x.h.Waiting()
						if mask >= 1<<waiting {
							break
						}
						x.h.Crash(keeping(waiting, mask))
						x.want(t, what)
					}
				}
			}
		}
	}
}

// TestPowerSafe: where no write is lost all is read, also the record under way, if its last write was carried out (P15.9).
func TestPowerSafe(t *testing.T) {
	row := [][]byte{full(30), full(460), full(900), nil, full(60)}
	for acts := range 9 {
		for _, done := range []bool{false, true} {
			x := &trial{h: block.New(24), from: 1, many: 2, epoch: 7}
			x.h.Arm(acts, done)
			x.run(t, row)
			all := x.appended
			if done && (acts == 0 || acts == 2 || acts == 4 || acts == 7) {
				all = append(all, x.underWay...)
			}
			x.h.Crash(keeping(x.h.Waiting(), -1))
			wantRead(t, "none lost", x.h.Disk(), 1, 2, 7, all...)
			x.want(t, "none lost")
		}
	}
}

// TestPowerAny: journals of one epoch behind another on one disk, each up to a loss of power (P15.9).
func TestPowerAny(t *testing.T) {
	d := dice(7)
	for range 300 {
		h := block.New(8 * 6)
		from, many := d.below(3), 1+d.below(3)
		sizes := []int{100, 700, 3000}[d.below(3)]
		same := d.below(2) == 0
		for _, epoch := range []int{1, 2, 3, 258, 4, 1 << 32, 1<<32 + 1, 1 << 39, 5, api.MaxVersion} {
			x := &trial{h: h, from: from, many: many, epoch: epoch}
			var row [][]byte
			room := many * 8 * part
			for range d.below(20) {
				b := append([]byte{}, d.record(sizes)...)
				if same {
					b = full(sizes)
				}
				if d.below(4) == 0 {
					row = append(row, nil)
				} else if room -= len(b) + 39; room >= 0 {
					row = append(row, b)
				}
			}
			h.Arm(d.below(40), d.below(2) == 0)
			x.run(t, row)
			keep := make([]bool, h.Waiting())
			often := 1 + d.below(5)
			for i := range keep {
				keep[i] = d.below(often) > 0
			}
			h.Crash(keep)
			x.want(t, "any")
			for _, other := range []int{6, 257, 1<<32 + 2, api.MaxVersion - 1} {
				wantRead(t, "of no journal", h.Disk(), from, many, other)
			}
		}
	}
}
