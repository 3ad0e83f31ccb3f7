package strap

// image gives each word the product of what it gives its letters. Permutations, normal forms and matrices of words differ only in what a letter and a product are.
type image[Element any] struct {
	empty    Element // that of the empty word
	ofLetter func(letter int) Element
	product  func(a, b Element) Element
}

func (m image[Element]) ofWord(word []int) Element {
	result := m.empty
	for _, letter := range word {
		result = m.product(result, m.ofLetter(letter))
	}
	return result
}
