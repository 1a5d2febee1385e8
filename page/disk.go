package page

import (
	"coffret/api"
	"coffret/block"
)

// Pages tells how many a disk has.
func Pages(d *block.Disk) int {
	return d.Sectors() / api.PageSectors
}

// Write writes a page.
func Write(d *block.Disk, number, kind int, body []byte) error {
	b, e := Make(number, kind, body)
	if e != api.OK {
		return e
	}
	if number >= Pages(d) {
		return api.ErrArg
	}
	for i := range api.PageSectors {
		if err := d.Write(sector(number, i), b[i*api.SectorSize:(i+1)*api.SectorSize]); err != nil {
			return err
		}
	}
	return nil
}

// Read reads one.
func Read(d *block.Disk, number int) (int, []byte, error) {
	if number < 0 || number >= Pages(d) {
		return 0, nil, api.ErrArg
	}
	b := make([]byte, api.PageSize)
	for i := range api.PageSectors {
		part, err := d.Read(sector(number, i))
		if err != nil {
			return 0, nil, err
		}
		copy(b[i*api.SectorSize:], part)
	}
	kind, body, e := Open(b, number)
	if e != api.OK {
		return 0, nil, e
	}
	return kind, body, nil
}

// sector is where the sector i of a page lies.
func sector(number, i int) int {
	return number*api.PageSectors + i
}
