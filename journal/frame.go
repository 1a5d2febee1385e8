package journal

import (
	"bytes"
	"slices"

	"coffret/api"
	"coffret/sum"
)

// Where each part of a frame's head begins; its length stands ahead of them all.
const (
	epochAt  = 4
	numberAt = 12
	sumAt    = 16
)

const (
	maxNumber = 1<<31 - 1
	maxRecord = api.MaxPages * api.PageSize
	stampSize = api.SectorSize - api.LogPart
)

// Frame is a record's bytes.
func Frame(epoch, number int, b []byte) ([]byte, api.Errno) {
	if !isEpoch(epoch) || number < 0 || number > maxNumber {
		return nil, api.ErrArg
	}
	if len(b) > maxRecord {
		return nil, api.ErrLong
	}
	f := make([]byte, api.LogHead+len(b))
	put(f[:epochAt], len(b))
	put(f[epochAt:numberAt], epoch)
	put(f[numberAt:sumAt], number)
	s, _ := sum.More(sum.Sum(f[:sumAt]), b)
	put(f[sumAt:api.LogHead], s)
	copy(f[api.LogHead:], b)
	return f, api.OK
}

// Scan tells the records at the beginning of bytes, and where they end.
func Scan(b []byte, epoch int) ([][]byte, int) {
	s := stream(b, epoch)
	var records [][]byte
	end := 0
	for {
		at := begin(end)
		record, there := recordAt(s, at, epoch, len(records))
		if !there {
			return records, end
		}
		records = append(records, record)
		end = at + api.LogHead + len(record)
	}
}

// stream is what sectors have of the stream of an epoch.
func stream(b []byte, epoch int) []byte {
	end := 0
	for len(b)-end >= api.SectorSize && isStamped(b[end:], epoch) {
		end += api.SectorSize
	}
	s := make([]byte, 0, end/api.SectorSize*api.LogPart)
	for sector := range slices.Chunk(b[:end], api.SectorSize) {
		s = append(s, sector[stampSize:]...)
	}
	return s
}

// recordAt is the record whose frame stands at a place of the stream, whole; false: none does.
func recordAt(s []byte, at, epoch, number int) ([]byte, bool) {
	length, e := sum.Read(s, at, epochAt)
	from := at + api.LogHead
	if e != api.OK || length > len(s)-from {
		return nil, false
	}
	f, e := Frame(epoch, number, s[from:from+length])
	if e != api.OK || !bytes.Equal(f, s[at:from+length]) {
		return nil, false
	}
	return f[api.LogHead:], true
}

// begin is the first place from p on at which a frame may begin: one at which its head stands in one sector, which is never written by half.
func begin(p int) int {
	if left := api.LogPart - p%api.LogPart; left < api.LogHead {
		return p + left
	}
	return p
}

// stamped are the bytes of a sector of that epoch whose part of the stream begins with these.
func stamped(epoch int, part []byte) []byte {
	b := make([]byte, api.SectorSize)
	put(b[:stampSize], epoch)
	copy(b[stampSize:], part)
	return b
}

// isStamped tells whether a sector is one of that epoch's.
func isStamped(sector []byte, epoch int) bool {
	n, e := sum.Read(sector, 0, stampSize)
	return e == api.OK && n == epoch
}

func isEpoch(n int) bool { return n >= 1 && n <= api.MaxVersion }

// put makes all of part a number, which fits.
func put(part []byte, n int) {
	b, _ := sum.Number(n, len(part))
	copy(part, b)
}
