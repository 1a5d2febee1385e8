package super

import (
	"coffret/api"
	"coffret/block"
	"coffret/page"
)

// Write writes one, and syncs.
func Write(d *block.Disk, s api.Super) error {
	if !mayBe(s) || s.Pages != page.Pages(d) {
		return api.ErrArg
	}
	if err := page.Write(d, place(s), api.PageSuper, body(s)); err != nil {
		return err
	}
	return d.Sync()
}

// Read tells the one that holds.
func Read(d *block.Disk) (api.Super, error) {
	if page.Pages(d) < api.MinPages {
		return api.Super{}, api.ErrSuper
	}
	var pages [2][]byte
	for number := range pages {
		b, err := bytesOf(d, number)
		if err != nil {
			return api.Super{}, err
		}
		pages[number] = b
	}
	s, e := Choose(pages[0], pages[1])
	if e != api.OK {
		return api.Super{}, e
	}
	if s.Pages != page.Pages(d) {
		return api.Super{}, api.ErrSuper
	}
	return s, nil
}

// bytesOf are a page's bytes, whatever stands there: page.Read would tell an error where the page is not whole.
func bytesOf(d *block.Disk, number int) ([]byte, error) {
	var b []byte
	for i := range api.PageSectors {
		part, err := d.Read(number*api.PageSectors + i)
		if err != nil {
			return nil, err
		}
		b = append(b, part...)
	}
	return b, nil
}
