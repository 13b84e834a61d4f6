"""Promise 2, as far as it speaks of gr_set_place."""

import math
import unittest

from singlechange.changerows import (
    gr_digit_place, gr_digits, gr_order, gr_order_place, gr_place, gr_set, gr_set_place, gr_word,
)
from tests.rows import (
    LARGEST_NUMBER, LARGEST_PLACE, SMALLEST_NUMBER,
    is_list_of_whole_numbers, place_in_long_row_of_sets, row_of_sets, spread_places,
)

LARGEST_SET = LARGEST_PLACE
WRONG_N = (0, 64, 65, -1, -63, SMALLEST_NUMBER, SMALLEST_NUMBER + 1, LARGEST_NUMBER - 1, LARGEST_NUMBER)
LONG_ROWS = [(n, k) for n in (14, 20, 32, 33, 62, 63) for k in range(n + 1)]


def bits(mask):
    return bin(mask).count("1")


class PlacesOfSets(unittest.TestCase):
    def test_rows_written_out(self):
        self.assertEqual([gr_set_place(3, mask) for mask in (3, 6, 5)], [[0, i] for i in range(3)])
        self.assertEqual([gr_set_place(4, mask) for mask in (3, 6, 5, 12, 10, 9)], [[0, i] for i in range(6)])

    def test_every_set_of_short_rows(self):
        for n in range(1, 13):
            sets = []
            for k in range(n + 1):
                row = row_of_sets(n, k)
                self.assertEqual({bits(mask) for mask in row}, {k})
                for i, mask in enumerate(row):
                    self.assertEqual(gr_set_place(n, mask), [0, i], (n, mask))
                sets.extend(row)
            self.assertEqual(sorted(sets), list(range(2 ** n)))

    def test_sets_beyond_short_rows(self):
        for n in range(1, 11):
            for mask in range(2 ** n, 2 ** (n + 2) + 2):
                self.assertEqual(gr_set_place(n, mask), [-3], (n, mask))

    def test_one_number_too_many_besides(self):
        for n in (1, 2, 3, 6, 32, 62, 63):
            for mask in spread_places(2 ** n):
                for number in (n, (n + 63) // 2, 63):
                    self.assertEqual(gr_set_place(n, mask + 2 ** number), [-3], (n, mask, number))

    def test_spread_sets_of_every_n(self):
        for n in range(1, 64):
            for mask in spread_places(2 ** n):
                self.assertEqual(gr_set_place(n, mask), [0, place_in_long_row_of_sets(n, mask)], (n, mask))


class SetsBackAndForth(unittest.TestCase):
    def test_at_every_place_of_short_rows(self):
        for n in range(1, 13):
            for k in range(n + 1):
                for i in range(math.comb(n, k)):
                    self.assertEqual(gr_set_place(n, gr_set(n, k, i)[1]), [0, i], (n, k, i))

    def test_at_spread_places_of_long_rows(self):
        for n, k in LONG_ROWS:
            for i in spread_places(math.comb(n, k)):
                self.assertEqual(gr_set_place(n, gr_set(n, k, i)[1]), [0, i], (n, k, i))

    def test_at_some_places_of_every_row(self):
        for n in range(1, 64):
            for k in range(n + 1):
                length = math.comb(n, k)
                for i in (0, length // 3, length // 2, length - 1):
                    self.assertEqual(gr_set_place(n, gr_set(n, k, i)[1]), [0, i], (n, k, i))

    def test_from_spread_sets_of_every_n(self):
        for n in range(1, 64):
            for mask in spread_places(2 ** n):
                place = gr_set_place(n, mask)[1]
                self.assertEqual(gr_set(n, bits(mask), place), [0, mask], (n, mask))


class SetPlaceEdges(unittest.TestCase):
    def test_one_thing(self):
        self.assertEqual(gr_set_place(1, 0), [0, 0])
        self.assertEqual(gr_set_place(1, 1), [0, 0])
        self.assertEqual(gr_set_place(1, 2), [-3])
        self.assertEqual(gr_set_place(1, 3), [-3])
        self.assertEqual(gr_set_place(1, 18446744073709551615), [-3])

    def test_sixty_three_things(self):
        self.assertEqual(gr_set_place(63, 0), [0, 0])
        self.assertEqual(gr_set_place(63, 9223372036854775807), [0, 0])
        self.assertEqual(gr_set_place(63, 4611686018427387904), [0, 62])
        self.assertEqual(gr_set_place(63, 9223372036854775808), [-3])
        self.assertEqual(gr_set_place(63, 9223372036854775809), [-3])
        self.assertEqual(gr_set_place(63, 18446744073709551615), [-3])

    def test_one_of_sixty_three(self):
        for number in range(63):
            self.assertEqual(gr_set_place(63, 2 ** number), [0, number], number)

    def test_all_but_one_of_sixty_three(self):
        for i, mask in enumerate(row_of_sets(63, 62)):
            self.assertEqual(gr_set_place(63, mask), [0, i], mask)

    def test_the_longest_rows(self):
        for k in (31, 32):
            self.assertEqual(gr_set_place(63, 2 ** k - 1), [0, 0])
            self.assertEqual(gr_set_place(63, 2 ** 62 + 2 ** (k - 1) - 1), [0, 916312070471295266])

    def test_edges_of_every_n(self):
        for n in range(1, 64):
            self.assertEqual(gr_set_place(n, 0), [0, 0], n)
            self.assertEqual(gr_set_place(n, 2 ** n - 1), [0, 0], n)
            self.assertEqual(gr_set_place(n, 2 ** (n - 1)), [0, n - 1], n)
            for mask in (2 ** n, 2 ** n + 1, 2 ** (n + 1) - 1, 2 ** 63, LARGEST_SET - 1, LARGEST_SET):
                self.assertEqual(gr_set_place(n, mask), [-3], (n, mask))

    def test_both_ends_of_every_row(self):
        for n in range(1, 64):
            for k in range(n + 1):
                last = 2 ** (n - 1) + 2 ** (k - 1) - 1 if 0 < k < n else 2 ** k - 1
                self.assertEqual(gr_set_place(n, 2 ** k - 1), [0, 0], (n, k))
                self.assertEqual(gr_set_place(n, last), [0, math.comb(n, k) - 1], (n, k))


class SetPlaceRefusals(unittest.TestCase):
    def test_n_out_of_range(self):
        for n in WRONG_N:
            for mask in (0, 1, 3):
                self.assertEqual(gr_set_place(n, mask), [-2], (n, mask))

    def test_n_is_refused_before_the_set(self):
        for n in WRONG_N:
            for mask in (2 ** 63, 2 ** 63 + 1, LARGEST_SET):
                self.assertEqual(gr_set_place(n, mask), [-2], (n, mask))

    def test_n_and_the_set_are_not_mixed_up(self):
        self.assertEqual(gr_set_place(3, 6), [0, 1])
        self.assertEqual(gr_set_place(6, 3), [0, 0])
        self.assertEqual(gr_set_place(2, 64), [-3])
        self.assertEqual(gr_set_place(64, 2), [-2])


class SetPlaceAnswers(unittest.TestCase):
    def test_whole_numbers_in_a_list(self):
        for n, mask, length in (
                (1, 0, 2), (1, 1, 2), (63, 2 ** 62 + 2 ** 30 - 1, 2), (63, 2 ** 63, 1), (0, 0, 1), (64, LARGEST_SET, 1)):
            answer = gr_set_place(n, mask)
            self.assertTrue(is_list_of_whole_numbers(answer), (n, mask))
            self.assertEqual(len(answer), length, (n, mask))

    def test_same_call_twice(self):
        for n, mask in ((6, 41), (63, 2 ** 62 + 2 ** 30 - 1), (6, 64), (64, 0)):
            first = gr_set_place(n, mask)
            kept = list(first)
            first.append(99)
            first[0] = 98
            gr_set_place(7, 85)
            gr_order_place(4, [3, 1, 0, 2])
            gr_place(6, 33)
            gr_digit_place(3, 4, [1, 2, 0, 1])
            gr_word(5, 17)
            gr_digits(3, 4, 50)
            gr_set(6, 3, 11)
            gr_order(6, 500)
            self.assertEqual(gr_set_place(n, mask), kept, (n, mask))

    def test_arguments_by_name(self):
        self.assertEqual(gr_set_place(n=4, the_set=12), [0, 3])


if __name__ == "__main__":
    unittest.main()
