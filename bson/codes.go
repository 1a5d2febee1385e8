package bson

import "coffret/api"

// The bytes of what has a fixed width.
const (
	lengthBytes = 4
	numberBytes = 8
	idBytes     = 12
	leastBytes  = 5 // of a document: its length, and the byte 0 behind its fields
)

// codes are the bytes that tell the kinds.
var codes = [...]byte{
	api.KindMin:   255,
	api.KindNull:  10,
	api.KindInt:   18,
	api.KindText:  2,
	api.KindDoc:   3,
	api.KindList:  4,
	api.KindBytes: 5,
	api.KindId:    7,
	api.KindBool:  8,
	api.KindDate:  9,
	api.KindMax:   127,
}

// kindOf is the kind that a byte other than 0 tells; 0, if it tells none.
func kindOf(code byte) int {
	for kind, c := range codes {
		if c == code {
			return kind
		}
	}
	return 0
}
