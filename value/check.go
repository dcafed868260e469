package value

import "ramble/api"

// Check is ErrValue, if v may not be.
func Check(v api.Value) api.Errno {
	if !mayBe(v, 1) {
		return api.ErrValue
	}
	return api.OK
}

// mayBe tells whether v may be, where it stands that deep.
func mayBe(v api.Value, deep int) bool {
	if deep > api.MaxDeep || !onlyItsFields(v) {
		return false
	}
	switch v.Kind {
	case api.VInt:
		return true
	case api.VStr:
		return len(v.S) <= api.MaxText
	case api.VBool:
		return v.N == 0 || v.N == 1
	case api.VVertex, api.VEdge:
		return v.N >= 1 && v.N <= api.MaxId
	case api.VList:
		return len(v.L) <= api.MaxList && allMayBe(v.L, deep+1)
	case api.VMap:
		// The values are asked ahead of the keys' order: only what is not too deep is worth comparing.
		return len(v.L) <= 2*api.MaxList && len(v.L)%2 == 0 && allMayBe(v.L, deep+1) && keysRise(v.L)
	}
	return false
}

// onlyItsFields tells whether all fields are zero that v's Kind does not have.
func onlyItsFields(v api.Value) bool {
	switch v.Kind {
	case api.VStr:
		return v.N == 0 && len(v.L) == 0
	case api.VList, api.VMap:
		return v.N == 0 && v.S == ""
	}
	return v.S == "" && len(v.L) == 0
}

func allMayBe(l []api.Value, deep int) bool {
	for _, v := range l {
		if !mayBe(v, deep) {
			return false
		}
	}
	return true
}

func keysRise(l []api.Value) bool {
	for i := 2; i < len(l); i += 2 {
		if Compare(l[i-2], l[i]) >= 0 {
			return false
		}
	}
	return true
}
