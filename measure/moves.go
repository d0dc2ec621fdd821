package measure

import (
	"slices"

	"cusp/api"
)

// moved returns a tooth that is moved by a vector.
func (t Tooth) moved(by api.Cell) Tooth {
	return t.changed(func(c api.Cell) api.Cell { return plus(c, by) })
}

// mirrored returns a tooth that is mirrored at a plane.
func (t Tooth) mirrored(plane int) Tooth {
	t = t.changed(func(c api.Cell) api.Cell { return mirrored(c, plane) })
	t.Left, t.Right = t.Right, t.Left
	return t
}

// checked returns an arch, or its error.
func (a Arch) checked() (Arch, api.Errno) {
	if e := CheckArch(a); e != api.OK {
		return Arch{}, e
	}
	return a, api.OK
}

// Mirrored returns an arch that is mirrored at a plane.
func Mirrored(a Arch, plane int) (Arch, api.Errno) {
	if e := first(CheckArch(a), checkPlane(plane)); e != api.OK {
		return Arch{}, e
	}
	var result Arch
	for _, t := range slices.Backward(a.Teeth) {
		result.Teeth = append(result.Teeth, t.mirrored(plane))
	}
	return result.checked()
}

// Shifted returns an arch that is moved by a vector.
func Shifted(a Arch, by api.Cell) (Arch, api.Errno) {
	if e := first(CheckArch(a), checkShift(by)); e != api.OK {
		return Arch{}, e
	}
	var result Arch
	for _, t := range a.Teeth {
		result.Teeth = append(result.Teeth, t.moved(by))
	}
	return result.checked()
}

// Changes returns how the teeth of an arch have moved.
func Changes(a, b Arch) ([]Change, api.Errno) {
	if e := first(CheckArch(a), CheckArch(b)); e != api.OK {
		return nil, e
	}
	var changes []Change
	later := b.names()
	for _, t := range a.Teeth {
		i, has := later[t.Name]
		if has && b.Teeth[i].Tip != t.Tip {
			changes = append(changes, Change{Name: t.Name, By: minus(b.Teeth[i].Tip, t.Tip)})
		}
	}
	return changes, api.OK
}

// Moved returns an arch with changes.
func Moved(a Arch, l []Change) (Arch, api.Errno) {
	if e := first(CheckArch(a), checkChanges(l)); e != api.OK {
		return Arch{}, e
	}
	result := Arch{Teeth: slices.Clone(a.Teeth)}
	known := a.names()
	for _, c := range l {
		i, has := known[c.Name]
		if !has {
			return Arch{}, api.ErrUnknown
		}
		result.Teeth[i] = a.Teeth[i].moved(c.By)
	}
	return result.checked()
}
