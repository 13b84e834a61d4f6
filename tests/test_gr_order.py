"""Promise 1, as far as it speaks of gr_order."""

import math
import unittest

from singlechange.changerows import gr_digits, gr_order, gr_set, gr_word
from tests.rows import (
    LARGEST_NUMBER, LARGEST_PLACE, SMALLEST_NUMBER,
    is_list_of_whole_numbers, order_in_long_row, row_of_orders, spread_places,
)

WRONG_N = (0, 21, 22, 63, -1, -20, SMALLEST_NUMBER, SMALLEST_NUMBER + 1, LARGEST_NUMBER)


class OrdersAtPlaces(unittest.TestCase):
    def test_row_written_out(self):
        self.assertEqual(
            [gr_order(3, i) for i in range(6)],
            [[0, 0, 1, 2], [0, 0, 2, 1], [0, 2, 0, 1], [0, 2, 1, 0], [0, 1, 2, 0], [0, 1, 0, 2]])

    def test_every_place_of_short_rows(self):
        for n in range(1, 8):
            row = row_of_orders(n)
            self.assertEqual(len(row), math.factorial(n))
            for i, order in enumerate(row):
                self.assertEqual(gr_order(n, i), [0] + order, (n, i))
            self.assertEqual(gr_order(n, len(row)), [-3], n)

    def test_spread_places_of_every_row(self):
        for n in range(1, 21):
            for i in spread_places(math.factorial(n)):
                self.assertEqual(gr_order(n, i), [0] + order_in_long_row(n, i), (n, i))


class TwoNeighboursChangePlaces(unittest.TestCase):
    def check_step(self, n, i):
        here = gr_order(n, i)[1:]
        there = gr_order(n, i + 1)[1:]
        self.assertEqual(sorted(here), list(range(n)), (n, i))
        changed = [spot for spot in range(n) if here[spot] != there[spot]]
        self.assertEqual(len(changed), 2, (n, i))
        first, second = changed
        self.assertEqual(second, first + 1, (n, i))
        self.assertEqual([here[first], here[second]], [there[second], there[first]], (n, i))

    def test_at_every_place_of_short_rows(self):
        for n in range(1, 8):
            length = math.factorial(n)
            for i in range(length - 1):
                self.check_step(n, i)
            self.assertEqual(len({tuple(gr_order(n, i)) for i in range(length)}), length, n)

    def test_at_spread_places_of_long_rows(self):
        for n in range(8, 21):
            for i in spread_places(math.factorial(n) - 1):
                self.check_step(n, i)


class OrderEdges(unittest.TestCase):
    def test_one_number(self):
        self.assertEqual(gr_order(1, 0), [0, 0])
        self.assertEqual(gr_order(1, 1), [-3])
        self.assertEqual(gr_order(1, LARGEST_PLACE), [-3])

    def test_two_numbers(self):
        self.assertEqual(gr_order(2, 0), [0, 0, 1])
        self.assertEqual(gr_order(2, 1), [0, 1, 0])
        self.assertEqual(gr_order(2, 2), [-3])
        self.assertEqual(gr_order(2, LARGEST_PLACE), [-3])

    def test_twenty_numbers(self):
        self.assertEqual(gr_order(20, 0), [0] + list(range(20)))
        self.assertEqual(gr_order(20, 1), [0] + list(range(18)) + [19, 18])
        self.assertEqual(gr_order(20, 19), [0, 19] + list(range(19)))
        self.assertEqual(gr_order(20, 20), [0, 19] + list(range(17)) + [18, 17])
        self.assertEqual(gr_order(20, 2432902008176639999), [0, 1, 0] + list(range(2, 20)))
        self.assertEqual(gr_order(20, 2432902008176640000), [-3])
        self.assertEqual(gr_order(20, LARGEST_PLACE), [-3])

    def test_both_ends_of_every_row(self):
        for n in range(1, 21):
            length = math.factorial(n)
            last = [1, 0] + list(range(2, n)) if n > 1 else [0]
            self.assertEqual(gr_order(n, 0), [0] + list(range(n)), n)
            self.assertEqual(gr_order(n, length - 1), [0] + last, n)
            for i in (length, length + 1, 2 ** 63, LARGEST_PLACE):
                self.assertEqual(gr_order(n, i), [-3], (n, i))


class OrderRefusals(unittest.TestCase):
    def test_n_out_of_range(self):
        for n in WRONG_N:
            self.assertEqual(gr_order(n, 0), [-2], n)
            self.assertEqual(gr_order(n, 1), [-2], n)

    def test_n_is_refused_before_the_place(self):
        for n in WRONG_N:
            self.assertEqual(gr_order(n, 2 ** 63), [-2], n)
            self.assertEqual(gr_order(n, LARGEST_PLACE), [-2], n)


class OrderAnswers(unittest.TestCase):
    def test_whole_numbers_in_a_list(self):
        for n, i, length in ((1, 0, 2), (2, 1, 3), (20, 2432902008176639999, 21), (20, LARGEST_PLACE, 1), (0, 0, 1)):
            answer = gr_order(n, i)
            self.assertTrue(is_list_of_whole_numbers(answer), (n, i))
            self.assertEqual(len(answer), length, (n, i))

    def test_same_call_twice(self):
        for n, i in ((5, 77), (20, 2432902008176639999), (5, 120), (21, 0)):
            first = gr_order(n, i)
            kept = list(first)
            first.append(99)
            first[0] = 98
            gr_order(6, 500)
            gr_set(6, 3, 11)
            gr_word(5, 17)
            gr_digits(3, 4, 50)
            self.assertEqual(gr_order(n, i), kept, (n, i))

    def test_arguments_by_name(self):
        self.assertEqual(gr_order(n=3, i=4), [0, 1, 2, 0])


if __name__ == "__main__":
    unittest.main()
