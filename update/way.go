package update

import (
	"strings"

	"coffret/api"
)

// matched is the part that stands for the place of the first element that matched.
const matched = "$"

// step is a part of a way. With chosen it leads to each element that is meant, else to one place.
type step struct {
	part   string
	chosen choice
}

// way leads to places in a document.
type way []step

// text is a way as it is written.
func (w way) text() string {
	var parts []string
	for _, s := range w {
		parts = append(parts, s.part)
	}
	return strings.Join(parts, ".")
}

// readWay is the way that a name is; choices are the filters for elements that there are.
func readWay(name string, choices map[string]choice) (way, api.Errno) {
	parts := strings.SplitN(name, ".", api.MaxParts+1) // one part too many tells enough
	if len(parts) > api.MaxParts || !isPart(parts[0]) {
		return nil, api.ErrUpdateForm
	}
	var w way
	places := 0
	for _, part := range parts {
		s, is := readStep(part, choices)
		if part == matched {
			places++
		}
		if !is || places > 1 {
			return nil, api.ErrUpdateForm
		}
		w = append(w, s)
	}
	return w, api.OK
}

// readStep is the step that a part is, if it is one.
func readStep(part string, choices map[string]choice) (step, bool) {
	switch {
	case part == "$[]":
		return step{part, all}, true
	case strings.HasPrefix(part, "$[") && strings.HasSuffix(part, "]"):
		is := choices[part[len("$["):len(part)-len("]")]]
		return step{part, is}, is != nil
	}
	return step{part, nil}, part == matched || isPart(part)
}

// inConflict tells whether one of the ways is another one, or begins it, part by part.
func inConflict(ways []string) bool {
	whole := map[string]struct{}{}
	for _, w := range ways {
		if _, twice := whole[w]; twice {
			return true
		}
		whole[w] = struct{}{}
	}
	for _, w := range ways {
		for at := range len(w) {
			if _, begun := whole[w[:at]]; begun && w[at] == '.' {
				return true
			}
		}
	}
	return false
}
