"""What stands at a place of a row in which one thing changes."""

OUT_OF_RANGE = -2
NO_SUCH_PLACE = -3


def gr_word(n, i):
    """Answer 0 and the word at place i of the row of words of n bits, or a refusal."""
    if n < 1 or n > 63:
        return [OUT_OF_RANGE]
    if i >> n > 0:
        return [NO_SUCH_PLACE]
    return [0, word_at(i)]


def gr_digits(k, n, i):
    """Answer 0 and the n digits below k at place i of their row, or a refusal."""
    if k < 2 or k > 16 or n < 1 or n > 15:
        return [OUT_OF_RANGE]
    size = digit_row_length(k, n)
    if i >= size:
        return [NO_SUCH_PLACE]
    return [0] + digits_at(k, n, size, i)


def word_at(i):
    """The word at place i of every row of words that is long enough."""
    # A set bit of the word turns round the row below it, which flips each lower bit of the place.
    # The flips from all higher bits of the word together come to the next higher bit of the place.
    return i ^ (i >> 1)


def digit_row_length(k, n):
    """How many rows of n digits below k there are."""
    length = 1
    for position in range(n):
        length = length * k
    return length


def digits_at(k, n, size, i):
    """The n digits below k at place i of their row, which has size places."""
    digits = []
    part = size
    place = i
    for position in range(n):
        part = part // k
        digit = place // part
        place = place % part
        # The turns begin forwards at digit 0, so behind an odd digit the rest stands from behind.
        if digit % 2 == 1:
            place = part - 1 - place
        digits.append(digit)
    return digits
