package bson

import (
	"bytes"

	"coffret/api"
)

// cursor goes through bytes from the front on, as far as there is room.
type cursor struct {
	bytes []byte
	at    int // where the next byte stands
	room  int // where the room ends
}

// stop ends all reading: the reader catches the fault.
func stop(code api.Errno, at int) {
	panic(api.Fault{Code: code, At: at})
}

// need stops, if there is no room for so many bytes.
func (c *cursor) need(many int) {
	if many > c.room-c.at {
		stop(api.ErrBsonShort, c.at)
	}
}

// take is so many bytes, for which there is room, in new memory.
func (c *cursor) take(many int) string {
	c.need(many)
	c.at += many
	return string(c.bytes[c.at-many : c.at])
}

// number is one of so many bytes, the lowest one first. Those of all eight bytes go round below 0, others are 0 or more.
func (c *cursor) number(width int) int {
	c.need(width)
	n := 0
	for i := range width {
		n |= int(c.bytes[c.at+i]) << (8 * i)
	}
	c.at += width
	return n
}

// upToZero is what stands ahead of the next byte 0 within the room, which is passed, too; false, if there is none.
func (c *cursor) upToZero() (string, bool) {
	many := bytes.IndexByte(c.bytes[c.at:c.room], 0)
	if many < 0 {
		return "", false
	}
	s := c.take(many)
	c.at++
	return s, true
}
