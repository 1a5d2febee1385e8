package keyenc

// The bytes of a key that tell how it goes on.
const (
	zero    = 0   // behind a list's or document's parts; twice behind a text
	more    = 1   // ahead of each part
	highest = 255 // of all bytes; behind a zero within a text, which goes on there
)
