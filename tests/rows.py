"""The rows, built straight from the document's words, and what the tests share."""

import functools
import math

LARGEST_PLACE = 18446744073709551615
SMALLEST_NUMBER = -2147483648
LARGEST_NUMBER = 2147483647


def row_of_words(n):
    """Those of one bit less in their order, then, from behind, the same with the new bit set besides."""
    row = [0]
    for bit in range(n):
        row = row + [word | 1 << bit for word in reversed(row)]
    return row


def row_of_digits(k, n):
    """Each digit in turn, and behind it the shorter rows, by turns forwards and from behind."""
    if n == 0:
        return [[]]
    forwards = row_of_digits(k, n - 1)
    from_behind = list(reversed(forwards))
    row = []
    for digit in range(k):
        shorter_rows = from_behind if digit % 2 else forwards
        row = row + [[digit] + shorter for shorter in shorter_rows]
    return row


@functools.lru_cache(maxsize=None)
def row_of_sets(n, k):
    """Those without the last number, then, from behind, those of one less with the last number besides."""
    # Kept, since the words lead to the same shorter row on very many ways.
    if k == 0:
        return (0,)
    if n == 0:
        return ()
    with_last = [mask | 1 << n - 1 for mask in reversed(row_of_sets(n - 1, k - 1))]
    return row_of_sets(n - 1, k) + tuple(with_last)


def row_of_orders(n):
    """Into each shorter order the last number is put, by turns from behind to the front and from the front."""
    if n == 0:
        return [[]]
    row = []
    for turn, shorter in enumerate(row_of_orders(n - 1)):
        from_the_front = [shorter[:spot] + [n - 1] + shorter[spot:] for spot in range(n)]
        row = row + (from_the_front if turn % 2 else list(reversed(from_the_front)))
    return row


def word_in_long_row(n, i):
    """The word at place i of a row that is too long to be built."""
    if n == 0:
        return 0
    half = 2 ** (n - 1)
    if i < half:
        return word_in_long_row(n - 1, i)
    return half + word_in_long_row(n - 1, 2 * half - 1 - i)


def digits_in_long_row(k, n, i):
    """The digits at place i of a row that is too long to be built."""
    if n == 0:
        return []
    part = k ** (n - 1)
    digit = 0
    while i >= part:
        i = i - part
        digit = digit + 1
    behind = i if digit % 2 == 0 else part - 1 - i
    return [digit] + digits_in_long_row(k, n - 1, behind)


def set_in_long_row(n, k, i):
    """The set at place i of a row that is too long to be built."""
    if k == 0:
        return 0
    without_last = math.comb(n - 1, k)
    if i < without_last:
        return set_in_long_row(n - 1, k, i)
    from_behind = math.comb(n - 1, k - 1) - 1 - (i - without_last)
    return 2 ** (n - 1) + set_in_long_row(n - 1, k - 1, from_behind)


def order_in_long_row(n, i):
    """The order at place i of a row that is too long to be built."""
    if n == 0:
        return []
    turn, step = divmod(i, n)
    shorter = order_in_long_row(n - 1, turn)
    spot = step if turn % 2 else len(shorter) - step
    return shorter[:spot] + [n - 1] + shorter[spot:]


def place_in_long_row_of_words(n, word):
    """The place of a word in a row that is too long to be built."""
    if n == 0:
        return 0
    half = 2 ** (n - 1)
    if word < half:
        return place_in_long_row_of_words(n - 1, word)
    return 2 * half - 1 - place_in_long_row_of_words(n - 1, word - half)


def place_in_long_row_of_digits(k, digits):
    """The place of digits in a row that is too long to be built."""
    if not digits:
        return 0
    part = k ** (len(digits) - 1)
    behind = place_in_long_row_of_digits(k, digits[1:])
    if digits[0] % 2 == 0:
        return digits[0] * part + behind
    return (digits[0] + 1) * part - 1 - behind


def place_in_long_row_of_sets(n, mask):
    """The place of a set, in the row of the sets of as many of n, which is too long to be built."""
    if mask == 0:
        return 0
    last = 2 ** (n - 1)
    if mask < last:
        return place_in_long_row_of_sets(n - 1, mask)
    k = bin(mask).count("1")
    without_last = math.comb(n - 1, k)
    with_last = math.comb(n - 1, k - 1)
    return without_last + with_last - 1 - place_in_long_row_of_sets(n - 1, mask - last)


def place_in_long_row_of_orders(order):
    """The place of an order in a row that is too long to be built."""
    if not order:
        return 0
    last = len(order) - 1
    spot = order.index(last)
    turn = place_in_long_row_of_orders(order[:spot] + order[spot + 1:])
    return turn * len(order) + (spot if turn % 2 else last - spot)


class UnchangeableList(list):
    """A list that fails on every try to change it, even if the change would be taken back."""

    def refuse(self, *arguments, **named):
        raise AssertionError("what is handed in is changed")

    append = clear = extend = insert = pop = remove = reverse = sort = refuse
    __setitem__ = __delitem__ = __iadd__ = __imul__ = refuse


def spread_places(length):
    """Some places of a long row: its ends, its middle, the powers of two and their neighbours, and strides."""
    places = {0, 1, length // 3, length // 2 - 1, length // 2, length - 2, length - 1}
    for exponent in range(length.bit_length()):
        places.update((2 ** exponent - 1, 2 ** exponent, 2 ** exponent + 1))
    places.update(range(0, length, length // 97 + 1))
    return sorted(place for place in places if 0 <= place < length)


def is_list_of_whole_numbers(answer):
    return type(answer) is list and all(type(number) is int for number in answer)
