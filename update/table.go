package update

// table is a list of things, each under a name.
type table[T any] []entry[T]

type entry[T any] struct {
	name string
	it   T
}

// named is the thing of that name, if there is one.
func (l table[T]) named(name string) (T, bool) {
	for _, x := range l {
		if x.name == name {
			return x.it, true
		}
	}
	var none T
	return none, false
}
