"""What stands at a place of a row in which one thing changes, and at which place something stands."""

OUT_OF_RANGE = -2
NO_SUCH_PLACE = -3
NOT_IN_ROW = -3


def gr_word(n, i):
    """Answer 0 and the word at place i of the row of words of n bits, or a refusal."""
    if n < 1 or n > 63:
        return [OUT_OF_RANGE]
    if i >> n > 0:
        return [NO_SUCH_PLACE]
    return [0, word_at(i)]


def gr_digits(k, n, i):
    """Answer 0 and the n digits below k at place i of their row, or a refusal."""
    if k < 2 or k > 16 or n < 1 or n > 15:
        return [OUT_OF_RANGE]
    size = digit_row_length(k, n)
    if i >= size:
        return [NO_SUCH_PLACE]
    return [0] + digits_at(k, n, size, i)


def gr_set(n, k, i):
    """Answer 0 and the set, as a mask, at place i of the row of sets of k of n, or a refusal."""
    if n < 1 or n > 63 or k < 0 or k > n:
        return [OUT_OF_RANGE]
    size = set_row_length(n, k)
    if i >= size:
        return [NO_SUCH_PLACE]
    return [0, set_at(n, k, size, i)]


def gr_order(n, i):
    """Answer 0 and the n numbers at place i of the row of orders, or a refusal."""
    if n < 1 or n > 20:
        return [OUT_OF_RANGE]
    if i >= order_row_length(n):
        return [NO_SUCH_PLACE]
    return [0] + order_at(n, i)


def gr_place(n, word):
    """Answer 0 and the place of the word in the row of words of n bits, or a refusal."""
    if n < 1 or n > 63:
        return [OUT_OF_RANGE]
    if word >> n > 0:
        return [NOT_IN_ROW]
    return [0, place_of_word(word)]


def gr_digit_place(k, n, digits):
    """Answer 0 and the place of the n digits in the row of digits below k, or a refusal."""
    if k < 2 or k > 16 or n < 1 or n > 15:
        return [OUT_OF_RANGE]
    if max(digits) >= k:
        return [NOT_IN_ROW]
    return [0, place_of_digits(k, digits)]


def gr_set_place(n, the_set):
    """Answer 0 and the place of the set, a mask, in the row of sets of as many of n as it has, or a refusal."""
    if n < 1 or n > 63:
        return [OUT_OF_RANGE]
    if the_set >> n > 0:
        return [NOT_IN_ROW]
    return [0, place_of_set(n, the_set)]


def gr_order_place(n, order):
    """Answer 0 and the place of the n numbers in the row of orders, or a refusal."""
    if n < 1 or n > 20:
        return [OUT_OF_RANGE]
    if sorted(order) != list(range(n)):
        return [NOT_IN_ROW]
    return [0, place_of_order(n, order)]


def word_at(i):
    """The word at place i of every row of words that is long enough."""
    # A set bit of the word turns round the row below it, which flips each lower bit of the place.
    # The flips from all higher bits of the word together come to the next higher bit of the place.
    return i ^ (i >> 1)


def place_of_word(word):
    """The place of the word, which is the same in every row of words that has it."""
    place = 0
    # Each set bit of the word flips its own bit of the place and, as it turns round the row below it, each lower one.
    # So a bit of the place is flipped once for each set bit of the word from there on upwards.
    rest = word
    while rest > 0:
        place = place ^ rest
        rest = rest >> 1
    return place


def digit_row_length(k, n):
    """How many rows of n digits below k there are."""
    length = 1
    for position in range(n):
        length = length * k
    return length


def digits_at(k, n, size, i):
    """The n digits below k at place i of their row, which has size places."""
    digits = []
    part = size
    place = i
    for position in range(n):
        part = part // k
        digit = place // part
        place = place % part
        # The turns begin forwards at digit 0, so behind an odd digit the rest stands from behind.
        if digit % 2 == 1:
            place = part - 1 - place
        digits.append(digit)
    return digits


def place_of_digits(k, digits):
    """The place of the digits in the row of as many digits below k."""
    place = 0
    part = 1
    # The last digit comes first here, since an odd digit turns round the place of all digits behind it.
    for digit in reversed(digits):
        if digit % 2 == 1:
            place = part - 1 - place
        place = digit * part + place
        part = part * k
    return place


def set_row_length(n, k):
    """How many sets of k of n there are."""
    length = 1
    for chosen in range(k):
        # Divided in this order nothing is lost: each length on the way is itself a number of sets.
        length = length * (n - chosen) // (chosen + 1)
    return length


def set_at(n, k, size, i):
    """The set, as a mask, at place i of the row of sets of k of n, which has size places."""
    mask = 0
    missing = k
    part = size
    place = i
    for number in range(n - 1, -1, -1):
        # Each of the number + 1 things is in equally many of the sets, so this share lacks the last one.
        without = part * (number + 1 - missing) // (number + 1)
        if place < without:
            part = without
        else:
            # These sets stand from behind at the end of the row, so their place is counted from there.
            place = part - 1 - place
            part = part - without
            missing = missing - 1
            mask = mask | (1 << number)
    return mask


def place_of_set(n, mask):
    """The place of the set, a mask, in the row of sets of as many of n as it has."""
    place = 0
    chosen = 0
    for number in range(n):
        # Without the number the place stays: the shorter row begins the longer one.
        if (mask >> number) % 2 == 1:
            chosen = chosen + 1
            # The sets with the number stand from behind at the end of the row.
            place = set_row_length(number + 1, chosen) - 1 - place
    return place


def order_row_length(n):
    """How many orders of n numbers there are."""
    length = 1
    for number in range(n):
        length = length * (number + 1)
    return length


def order_at(n, i):
    """The order of 0 to n - 1 at place i of their row."""
    order = []
    for number, spot in enumerate(reversed(spots_at(n, i))):
        order.insert(spot, number)
    return order


def spots_at(n, i):
    """Where n - 1, n - 2 and so on to 0 are put in among the smaller ones, for the order at place i."""
    spots = []
    place = i
    for number in range(n - 1, -1, -1):
        step = place % (number + 1)
        place = place // (number + 1)
        # The place that is left is that of the smaller ones' order: place 0, an even one, is the first order.
        if place % 2 == 0:
            spots.append(number - step)
        else:
            spots.append(step)
    return spots


def place_of_order(n, order):
    """The place of the order of 0 to n - 1 in their row."""
    place = 0
    for number in range(n):
        spot = spot_among_smaller(order, number)
        # The place so far is that of the smaller ones' order: place 0, an even one, is the first order.
        step = number - spot if place % 2 == 0 else spot
        place = place * (number + 1) + step
    return place


def spot_among_smaller(order, number):
    """How many smaller ones stand ahead of the number in the order."""
    ahead = order[:order.index(number)]
    return len([other for other in ahead if other < number])
